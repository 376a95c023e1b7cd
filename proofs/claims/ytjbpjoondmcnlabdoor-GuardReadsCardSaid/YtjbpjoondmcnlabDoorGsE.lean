/-
  guard: the document's masked.
-/
import Derived.Test.YtjbpjoondmcnlabDoorGsC
import Derived.Test.YtjbpjoondmcnlabDoorStrG
import Derived.Test.YtjbpjoondmcnlabDoorMg13
namespace Go.Proofs.YtjbpjoondmcnlabDoor
open Go Go.RowKit Go.BigFrame
set_option linter.unusedSimpArgs false
set_option linter.unusedVariables false
set_option maxRecDepth 100000
theorem small8 {P : BitVec 8 → Prop} (h : ∀ n : Nat, n < 256 → P (BitVec.ofNat 8 n)) (x : BitVec 8) : P x := by
  have := h x.toNat x.isLt
  rwa [BitVec.ofNat_toNat, BitVec.setWidth_eq] at this
theorem mod16 (x : BitVec 8) : n8 x % 16 = n8 (x &&& 15#8) := by
  rw [n8_nat, n8_nat, BitVec.toNat_and, show x.toNat &&& (15#8).toNat = x.toNat % 16 from Nat.and_two_pow_sub_one_eq_mod x.toNat 4]; omega
theorem mod32 (x : BitVec 8) : n8 x % 32 = n8 (x &&& 31#8) := by
  rw [n8_nat, n8_nat, BitVec.toNat_and, show x.toNat &&& (31#8).toNat = x.toNat % 32 from Nat.and_two_pow_sub_one_eq_mod x.toNat 5]; omega
theorem top_iff (x : BitVec 8) : x &&& 128#8 = 0#8 ↔ x.toNat < 128 := small8 (P := fun x => x &&& 128#8 = 0#8 ↔ x.toNat < 128) (by decide +kernel) x
/-- A text with its first byte and s from at on hidden. -/
def hidP (mk b : Nat → BitVec 8) (at_ s : Nat) : Nat → BitVec 8 := togF (updb b 0 (veilF (b 0) (mskF mk (fun i => b (at_ + i)) 0))) (fun i => mskF mk (fun i => b (at_ + i)) (1 + i)) at_ s
set_option maxHeartbeats 8000000 in
theorem masked_any (mk b : Nat → BitVec 8) (K I : ByteArray) (n p s : Nat) (hs : s ≤ 4) (hp : 1 ≤ p) (hn : p + 20 ≤ n) (hn2 : n ≤ 100000) (w : World) :
    Calls Tryd.prog 24 #[.agg (kysC K I (strOf mk 16)), .string (strOf b n), .int .i64 (p : Int), .int .i64 (s : Int)] w fun e w' => e = .returned (.string (strOf (hidP mk b p s) n)) ∧ Below w.heap.size w w' := by
  have R0 : (w.alloc (.cells (kysC K I (strOf mk 16)) 23)).heap[w.heap.size]? = some (.cells (kysC K I (strOf mk 16)) 23 (0, 0)) := heap_alloc_last _ _
  have hb1 : Below w.heap.size w (w.alloc (.cells (kysC K I (strOf mk 16)) 23)) := (Below.refl w.heap.size w).alloc (Nat.le_refl _) _
  obtain ⟨c0, c1, c2⟩ := kys_cells R0
  have HB := Lib.hid hb1
  have C2 := Lib.hid c2
  have S1 := Lib.hid (fun w' => run_str_mid b (p + 4) (p + 20) n ((p : Int) + 4) ((p : Int) + 20) (by omega) (by omega) (by omega) (by omega) w')
  rw [show p + 20 - (p + 4) = 16 by omega, show (fun i => b (p + 4 + i)) = (fun i => (fun j => b (p + j)) (4 + i)) from funext fun i => by show b _ = b _; rw [Nat.add_assoc]] at S1
  have RD := Lib.hid (fun w' => readyR_any mk w')
  have BK := Lib.hid (fun (w' : World) (q : Nat) (hk : w'.heap[q]? = some (.cells (bytesArr (keyF (kbyte mk)) 432) 110 (0, 0))) => blockR_any mk (fun i => (fun j => b (p + j)) (4 + i)) q w' hk)
  have i0 := fun w' => run_at_str b n 0 (by omega) w'
  have j0 := fun w' => run_at_str (mskF mk (fun i => b (p + i))) 16 0 (by omega) w'
  have JK := Lib.hid (fun (k : Nat) (hk : 1 + k < 16) (w' : World) => (by have h := run_at_str (mskF mk (fun i => b (p + i))) 16 (1 + k) hk w'; rw [Int.natCast_add] at h; exact h : (Instr.index 9 (.string (strOf (mskF mk (fun i => b (p + i))) 16)) (.int .i64 (1 + (k : Int)))).run Tryd.prog w' = .ok (.int .u8 (n8 (mskF mk (fun i => b (p + i)) (1 + k)))) w'))
  have CO := Lib.hid (fun (w' : World) => conv_ownZ b n (by omega) w' w'.heap.size (Nat.le_refl _))
  have hm : strOf (turned sbox (sched mk) (W4.of (fun i => (fun j => b (p + j)) (4 + i)))).byte 16 = strOf (mskF mk (fun i => b (p + i))) 16 := rfl
  rw [hm] at BK
  unfold hidP
  generalize mskF mk (fun i => b (p + i)) = M at *
  generalize hvv : veilF (b 0) (M 0) = VV at *
  have hp4 : IntKind.wrap .i64 ((p : Int) + 4) = (p : Int) + 4 := by simp only [IntKind.wrap, IntKind.bits, IntKind.signed]; simp; omega
  have hp20 : IntKind.wrap .i64 ((p : Int) + 20) = (p : Int) + 20 := by simp only [IntKind.wrap, IntKind.bits, IntKind.signed]; simp; omega
  clear c0 c1 c2 R0 hb1 hm
  unfold kysC at *
  generalize strOf mk 16 = SK at *
  generalize strOf (fun i => (fun j => b (p + j)) (4 + i)) 16 = SS at *
  generalize strOf b n = SB at *
  generalize strOf M 16 = SM at *
  simp only [Int.ofNat_zero, Int.natCast_zero] at i0 j0
  go_enter Tryd.func24, Tryd.ntmps24
  go_upto_region 1 with (fail)
  have HL := Lib.hid (show w.heap.size < (w.alloc (.cells #[.string K, .string I, .string SK] 23)).heap.size by simp)
  generalize w.alloc _ = w1 at *
  refine region_anyM mixedOrders ?_
  refine anyM_take (i := 0) (oi := ⟨some 12, _, _, _, _, _⟩) (v := .pointer (some ⟨w.heap.size, 2, none⟩)) rfl (by kernel_rfl) (by kernel_rfl) (by kernel_rfl) (fun _ _ _ h => h) (.inl ⟨by rfl, fun w2 hw2 => ?_⟩) ?_
  · clear hw2
    go_simp
  simp only [Act.put, List.setIfInBounds_toArray, List.set_cons_succ, List.set_cons_zero]
  refine anyM_take (i := 1) (oi := ⟨some 13, _, _, _, _, _⟩) (v := .string SK) rfl (by kernel_rfl) (by kernel_rfl) (by kernel_rfl) (fun _ _ _ h => h) (.inl ⟨by rfl, fun w2 hw2 => ?_⟩) ?_
  · have hc2 : w2.cell? ⟨w.heap.size, 2, none⟩ = some (.string SK) := ((show Below w1.drew.heap.size w1.drew w2 from hw2).cell (p := ⟨w.heap.size, 2, none⟩) HL.out).trans C2.out
    clear hw2
    go_simp
  simp only [Act.put, List.setIfInBounds_toArray, List.set_cons_succ, List.set_cons_zero]
  refine anyM_take (i := 3) (oi := ⟨some 15, _, _, _, _, _⟩) (v := .string SB) rfl (by kernel_rfl) (by kernel_rfl) (by kernel_rfl) (fun _ _ _ h => h) (.inl ⟨by rfl, fun w2 hw2 => ?_⟩) ?_
  · clear hw2
    go_simp
  simp only [Act.put, List.setIfInBounds_toArray, List.set_cons_succ, List.set_cons_zero]
  refine anyM_take (i := 4) (oi := ⟨some 16, _, _, _, _, _⟩) (v := .int .i64 (p : Int)) rfl (by kernel_rfl) (by kernel_rfl) (by kernel_rfl) (fun _ _ _ h => h) (.inl ⟨by rfl, fun w2 hw2 => ?_⟩) ?_
  · clear hw2
    go_simp
  simp only [Act.put, List.setIfInBounds_toArray, List.set_cons_succ, List.set_cons_zero]
  refine anyM_take (i := 5) (oi := ⟨some 17, _, _, _, _, _⟩) (v := .int .i64 ((p : Int) + 4)) rfl (by kernel_rfl) (by kernel_rfl) (by kernel_rfl) (fun _ _ _ h => h) (.inl ⟨by rfl, fun w2 hw2 => ?_⟩) ?_
  · clear hw2
    go_simp
  simp only [Act.put, List.setIfInBounds_toArray, List.set_cons_succ, List.set_cons_zero]
  refine anyM_take (i := 6) (oi := ⟨some 18, _, _, _, _, _⟩) (v := .int .i64 (p : Int)) rfl (by kernel_rfl) (by kernel_rfl) (by kernel_rfl) (fun _ _ _ h => h) (.inl ⟨by rfl, fun w2 hw2 => ?_⟩) ?_
  · clear hw2
    go_simp
  simp only [Act.put, List.setIfInBounds_toArray, List.set_cons_succ, List.set_cons_zero]
  refine anyM_take (i := 7) (oi := ⟨some 19, _, _, _, _, _⟩) (v := .int .i64 ((p : Int) + 20)) rfl (by kernel_rfl) (by kernel_rfl) (by kernel_rfl) (fun _ _ _ h => h) (.inl ⟨by rfl, fun w2 hw2 => ?_⟩) ?_
  · clear hw2
    go_simp
  simp only [Act.put, List.setIfInBounds_toArray, List.set_cons_succ, List.set_cons_zero]
  refine anyM_take (i := 8) (oi := ⟨some 20, _, _, _, _, _⟩) (v := .string SS) rfl (by kernel_rfl) (by kernel_rfl) (by kernel_rfl) (fun _ _ _ h => h) (.inl ⟨by rfl, fun w2 hw2 => ?_⟩) ?_
  · have hs1 := S1.out
    clear hw2
    go_simp
  simp only [Act.put, List.setIfInBounds_toArray, List.set_cons_succ, List.set_cons_zero]
  refine anyM_call (i := 2) (o := ⟨some 14, _, _, _, _, _⟩) 43 #[.string SK] (by kernel_rfl) rfl (by rfl) (fun w2 => by go_simp) (fun w4 hw4 => ?_)
  have b4 := ext_below hw4 HB.out.drew HB.out.drew.size
  refine (RD.out w4).mono ?_
  rintro e w5 ⟨k5, rfl, my⟩
  refine ⟨_, rfl, my.below, ?_⟩
  have B5 := Lib.hid (b4.trans (my.below.mono b4.size))
  have K5 := Lib.hid my.row
  clear my hw4 b4 RD HL C2
  simp only [Act.put, List.setIfInBounds_toArray, List.set_cons_succ, List.set_cons_zero]
  refine anyM_call (i := 9) (o := ⟨some 21, _, _, _, _, _⟩) 46 #[.pointer (some ⟨k5, 0, none⟩), .string SS] (by kernel_rfl) rfl (by rfl) (fun w2 => by go_simp) (fun w6 hw6 => ?_)
  have b6 := ext_below hw6 B5.out B5.out.size
  refine (BK.out w6 k5 ((Below.block (show Below w5.heap.size w5 w6 from hw6) k5 (lt_row K5.out)).trans K5.out)).mono ?_
  rintro e w7 ⟨rfl, hb7⟩
  refine ⟨_, rfl, hb7, ?_⟩
  have B7 := Lib.hid (b6.trans (hb7.mono b6.size))
  clear hw6 b6 hb7 BK B5 K5
  simp only [Act.put, List.setIfInBounds_toArray, List.set_cons_succ, List.set_cons_zero]
  refine anyM_take (i := 10) (oi := ⟨some 9, _, _, _, _, _⟩) (v := .string SM) rfl (by kernel_rfl) (by kernel_rfl) (by kernel_rfl) (fun _ _ _ h => h) (.inl ⟨by rfl, fun w2 hw2 => ?_⟩) ?_
  · clear hw2
    go_simp
  simp only [Act.put, List.setIfInBounds_toArray, List.set_cons_succ, List.set_cons_zero]
  refine anyM_done (by kernel_rfl) (fun w8 hw8 => ?_)
  have B8 := Lib.hid (ext_below hw8 B7.out B7.out.size)
  clear hw8 B7
  obtain ⟨v9, w9, hcv, o9, b9⟩ := CO.out w8
  obtain ⟨g, c, rfl, hg, hc, hcm, rz⟩ := o9.rowZ (by omega)
  have RZ := Lib.hid rz
  have B9 := Lib.hid (B8.out.trans (b9.mono B8.out.size))
  have hgq : w.heap.size ≤ g := Nat.le_trans B8.out.size hg
  clear o9 b9 rz B8 CO
  by_cases ht : b 0 &&& 128#8 = 0#8
  · have hge : ¬ (128 : Int) ≤ n8 (b 0) := by have := (top_iff _).1 ht; rw [n8_nat]; omega
    obtain rfl : VV = b 0 ^^^ (M 0 &&& 31#8) := by rw [← hvv]; unfold veilF; rw [if_pos ht]
    clear hvv
    have cz := RZ.out.at 0 (by omega)
    have fz := RZ.out.free 0 (by omega)
    go_upto_region 5 with (fail)
    clear hcv
    go_region
    go_wp2_with fail
    have ex : bits .xor .u8 (n8 (b 0)) ((n8 (M 0)).tmod 32) = n8 (b 0 ^^^ (M 0 &&& 31#8)) := by rw [Int.tmod_eq_emod_of_nonneg (by rw [n8_nat]; omega), mod32]; exact xor_b _ _
    rw [ex]
    have RY := Lib.hid (RZ.out.set 0 (b 0 ^^^ (M 0 &&& 31#8)))
    have BY := Lib.hid (B9.out.setCell hgq (p := ⟨g, 0, none⟩) (.int .u8 (n8 (b 0 ^^^ (M 0 &&& 31#8)))))
    clear cz fz RZ B9 ex
    generalize World.setCell _ _ _ = wy at *
    generalize hV : updb b 0 _ = V at *
    have HV := Lib.hid hV
    clear hV
    go_loopw [11] (fun s11 wr => ∃ k : Nat, k ≤ s ∧ s11 = .int .i64 (k : Int) ∧ RowZ wr g n (togF V (fun i => M (1 + i)) p k) ∧ Below w.heap.size w wr) (fun s11 _ => s - (intOf s11).toNat)
    case atStart => exact ⟨0, by omega, rfl, RY.out.congr (fun i hi => by unfold togF; rw [if_neg (by omega)]), BY.out.drew⟩
    case round =>
      clear RY BY
      obtain ⟨k, hk, rfl, rz, bel⟩ := hrel
      have BEL := Lib.hid bel
      have RZ := Lib.hid rz
      clear bel rz
      by_cases hlt : k < s
      · have hlI : (k : Int) < (s : Int) := by omega
        have c1 := RZ.out.at (p + k) (by omega)
        have f1 := RZ.out.free (p + k) (by omega)
        have jk := JK.out k (by omega)
        have hx : togF V (fun i => M (1 + i)) p k (p + k) = V (p + k) := by unfold togF; rw [if_neg (by omega)]
        rw [hx] at c1
        have hi1 : (p : Int) + (k : Int) = ((p + k : Nat) : Int) := by omega
        have hw1 : IntKind.wrap .i64 ((p + k : Nat) : Int) = ((p + k : Nat) : Int) := by simp only [IntKind.wrap, IntKind.bits, IntKind.signed]; simp; omega
        have hw2 : IntKind.wrap .i64 ((1 : Int) + (k : Int)) = (1 : Int) + (k : Int) := by simp only [IntKind.wrap, IntKind.bits, IntKind.signed]; simp; omega
        have hjn : p + k < n := by omega
        generalize hj : p + k = j at *
        go_upto_region 9 with (fail)
        go_region
        go_wp2_with fail
        refine ⟨⟨k + 1, by omega, by go_num, ?_, (BEL.out.setCell hgq _).drew⟩, (by simp [intOf] <;> omega)⟩
        obtain ⟨cur, fr, r⟩ := (RZ.out.set j (V j ^^^ M (1 + k))).congr (f' := togF V (fun i => M (1 + i)) p (k + 1)) (fun i hi => by
          unfold updb togF
          by_cases hij : i = j
          · subst hij
            rw [if_pos rfl, if_pos (by omega), show i - p = k by omega]
          · rw [if_neg hij]
            by_cases h2 : p ≤ i ∧ i < p + k
            · rw [if_pos h2, if_pos (by omega)]
            · rw [if_neg h2, if_neg (by omega)])
        exact ⟨cur, fr, r⟩
      · obtain rfl : k = s := by omega
        have hN : ¬ ((k : Int) < (k : Int)) := by omega
        have cv := conv_in _ _ n c wr (RZ.out.bytesIn (by unfold maxLen; omega))
        go_wp2_with fail
        go_ret
        exact ⟨by rw [HV.out]; rfl, BEL.out⟩
  · have hge : (128 : Int) ≤ n8 (b 0) := by have := mt (top_iff _).2 ht; rw [n8_nat]; omega
    obtain rfl : VV = b 0 ^^^ (M 0 &&& 15#8) := by rw [← hvv]; unfold veilF; rw [if_neg ht]
    clear hvv
    have cz := RZ.out.at 0 (by omega)
    have fz := RZ.out.free 0 (by omega)
    go_upto_region 4 with (fail)
    clear hcv
    go_region
    go_wp2_with fail
    have ex : bits .xor .u8 (n8 (b 0)) ((n8 (M 0)).tmod 16) = n8 (b 0 ^^^ (M 0 &&& 15#8)) := by rw [Int.tmod_eq_emod_of_nonneg (by rw [n8_nat]; omega), mod16]; exact xor_b _ _
    rw [ex]
    have RY := Lib.hid (RZ.out.set 0 (b 0 ^^^ (M 0 &&& 15#8)))
    have BY := Lib.hid (B9.out.setCell hgq (p := ⟨g, 0, none⟩) (.int .u8 (n8 (b 0 ^^^ (M 0 &&& 15#8)))))
    clear cz fz RZ B9 ex
    generalize World.setCell _ _ _ = wy at *
    generalize hV : updb b 0 _ = V at *
    have HV := Lib.hid hV
    clear hV
    go_loopw [11] (fun s11 wr => ∃ k : Nat, k ≤ s ∧ s11 = .int .i64 (k : Int) ∧ RowZ wr g n (togF V (fun i => M (1 + i)) p k) ∧ Below w.heap.size w wr) (fun s11 _ => s - (intOf s11).toNat)
    case atStart => exact ⟨0, by omega, rfl, RY.out.congr (fun i hi => by unfold togF; rw [if_neg (by omega)]), BY.out.drew⟩
    case round =>
      clear RY BY
      obtain ⟨k, hk, rfl, rz, bel⟩ := hrel
      have BEL := Lib.hid bel
      have RZ := Lib.hid rz
      clear bel rz
      by_cases hlt : k < s
      · have hlI : (k : Int) < (s : Int) := by omega
        have c1 := RZ.out.at (p + k) (by omega)
        have f1 := RZ.out.free (p + k) (by omega)
        have jk := JK.out k (by omega)
        have hx : togF V (fun i => M (1 + i)) p k (p + k) = V (p + k) := by unfold togF; rw [if_neg (by omega)]
        rw [hx] at c1
        have hi1 : (p : Int) + (k : Int) = ((p + k : Nat) : Int) := by omega
        have hw1 : IntKind.wrap .i64 ((p + k : Nat) : Int) = ((p + k : Nat) : Int) := by simp only [IntKind.wrap, IntKind.bits, IntKind.signed]; simp; omega
        have hw2 : IntKind.wrap .i64 ((1 : Int) + (k : Int)) = (1 : Int) + (k : Int) := by simp only [IntKind.wrap, IntKind.bits, IntKind.signed]; simp; omega
        have hjn : p + k < n := by omega
        generalize hj : p + k = j at *
        go_upto_region 9 with (fail)
        go_region
        go_wp2_with fail
        refine ⟨⟨k + 1, by omega, by go_num, ?_, (BEL.out.setCell hgq _).drew⟩, (by simp [intOf] <;> omega)⟩
        obtain ⟨cur, fr, r⟩ := (RZ.out.set j (V j ^^^ M (1 + k))).congr (f' := togF V (fun i => M (1 + i)) p (k + 1)) (fun i hi => by
          unfold updb togF
          by_cases hij : i = j
          · subst hij
            rw [if_pos rfl, if_pos (by omega), show i - p = k by omega]
          · rw [if_neg hij]
            by_cases h2 : p ≤ i ∧ i < p + k
            · rw [if_pos h2, if_pos (by omega)]
            · rw [if_neg h2, if_neg (by omega)])
        exact ⟨cur, fr, r⟩
      · obtain rfl : k = s := by omega
        have hN : ¬ ((k : Int) < (k : Int)) := by omega
        have cv := conv_in _ _ n c wr (RZ.out.bytesIn (by unfold maxLen; omega))
        go_wp2_with fail
        go_ret
        exact ⟨by rw [HV.out]; rfl, BEL.out⟩
end Go.Proofs.YtjbpjoondmcnlabDoor
