/-
  THE DOCUMENT's Mac (rhyneref01) IS sha's.
-/
import Derived.Test.YtebhhonmpoeliaaDoorShaS
import Derived.Test.YtebhhonmpoeliaaDoorShaJ
import Derived.Lib.LazyBuf
namespace Go.Proofs.YtebhhonmpoeliaaDoor
open Go Go.RowKit Go.BigFrame
set_option linter.unusedSimpArgs false
set_option linter.unusedVariables false
theorem strOf_join (f g : Nat → BitVec 8) (a b : Nat) : strOf f a ++ strOf g b = strOf (joinb f a g) (a + b) := by
  apply ByteArray.ext
  rw [ByteArray.data_append]
  unfold strOf
  apply Array.ext'
  rw [Array.toList_append]
  show strL f a ++ strL g b = strL _ (a + b)
  apply List.ext_getElem?
  intro i
  by_cases hi : i < a
  · rw [List.getElem?_append_left (by rw [strL_length]; exact hi)]
    have h2 : i < a + b := by omega
    simp [strL, joinb, hi, h2]
  · rw [List.getElem?_append_right (by rw [strL_length]; omega), strL_length]
    by_cases h2 : i < a + b
    · have h3 : i - a < b := by omega
      simp [strL, joinb, hi, h2, h3]
    · have h3 : ¬ i - a < b := by omega
      simp [strL, h2, h3]
/-- 'copy' of a text into a row of one's own. -/
theorem copy_text {w : World} {q M : Nat} {g : Nat → BitVec 8} {T : TypeId} (h : w.heap[q]? = some (.cells (bytesA g M) T (0, 0))) (k : Nat) (p : Nat → BitVec 8) (hk : k ≤ M) :
    ∃ w', (Builtin.copy_ #[40, 9] 3 #[.slice (some ⟨q, 0, none⟩) M M, .string (strOf p k)]).run Tryd.prog w = .ok (goInt k) w' ∧ RowSet w q T (bytesA (over8 g 0 k p) M) w' := by
  have hu : Tryd.prog.underlying 40 = some (.slice 5) := by kernel_rfl
  have e : ((strOf p k).data.toList.map fun x => Value.int .u8 (x.toNat : Int)) = cells8 p k := by
    show (strL p k).toArray.toList.map _ = _
    unfold strL cells8
    rw [List.toList_toArray, List.map_map]
    apply List.map_congr_left
    intro i _
    rw [n8_u8]
    rfl
  have hr := run_copy_string (P := Tryd.prog) w 40 9 3 5 q 0 M M (strOf p k) hu (fun w => by
    obtain ⟨i, hi, hz, hsz, hby⟩ := info_u8'
    simp [sizeOf, typeInfo, hi, hsz]) (by rw [strOf_size]; exact hk)
    (fun j hj => by rw [strOf_size] at hj; rw [Nat.zero_add, row_range h (by omega)]; rfl) (fun j hj => frozen_of_row _ _ _ _ _ h)
  rw [strOf_size, e] at hr
  refine ⟨_, hr, ?_, fun j hj => setCells_other q j hj _ _ _, setCells_size q _ _ _, fun B hB => setCells_below B q hB _ _ _ _ (Below.refl _ _)⟩
  obtain ⟨C, h1, h2, h3⟩ := setCells_row q T (cells8 p k) 0 w _ h
  rw [bytesA_size] at h2
  rw [h1]
  congr 2
  apply Array.ext_getElem?
  intro i
  rw [h3, cells8_len, bytesA_size]
  by_cases hi : i < M
  · rw [show (bytesA (over8 g 0 k p) M)[i]? = _ from bytesA_get _ hi]
    unfold over8
    by_cases c : 0 ≤ i ∧ i < 0 + k
    · rw [if_pos ⟨c.1, c.2, hi⟩, if_pos c, cells8_get _ (by omega)]
    · rw [if_neg (fun e => c ⟨e.1, e.2.1⟩), if_neg c, bytesA_get _ hi]
  · rw [if_neg (by omega), Array.getElem?_eq_none (by rw [bytesA_size]; omega), Array.getElem?_eq_none (by rw [bytesA_size]; omega)]
theorem keyB_of (p : Nat → BitVec 8) (m : Nat) (hm : m ≤ 64) : over8 (fun _ => 0#8) 0 m p = keyB p m := by
  funext i
  unfold over8 keyB
  rw [if_pos hm]
  by_cases hi : i < m
  · rw [if_pos (by omega), if_pos hi]; rfl
  · rw [if_neg (by omega), if_neg hi]
theorem keyB_long (p : Nat → BitVec 8) (m : Nat) (hm : ¬ m ≤ 64) : keyB (sumS p m) 32 = keyB p m := by
  funext i
  unfold keyB
  rw [if_pos (by omega), if_neg hm]
theorem made64 (w : World) : (Instr.makeSlice 40 (.int .i64 64) (.int .i64 64)).run Tryd.prog w = .ok (.slice (some ⟨w.heap.size, 0, none⟩) 64 64) (w.alloc (.cells (bytesA (fun _ => 0#8) 64) 5)) :=
  run_make_bytes 64 (by omega) w
theorem made_two64 (w : World) (o : Obj) : ((w.alloc o).alloc o).drew.heap[w.heap.size]? = some o ∧ ((w.alloc o).alloc o).drew.heap[w.heap.size + 1]? = some o ∧ Below w.heap.size w ((w.alloc o).alloc o).drew :=
  ⟨rows_alloc w [o, o] 0, rows_alloc w [o, o] 1, (((Below.refl _ _).alloc (Nat.le_refl _) _).alloc (by simp) _).drew⟩
set_option maxHeartbeats 16000000 in
set_option maxRecDepth 100000 in
theorem refMac_any (f g : Nat → BitVec 8) (m n : Nat) (hm : m ≤ 50000) (hn : n ≤ 50000) (w : World) : Calls Tryd.prog 16 #[.string (strOf f m), .string (strOf g n)] w
    fun e w' => e = .returned (.string (strOf (macB (keyB f m) g n) 32)) ∧ Below w.heap.size w w' := by
  have hlen := strOf_size f m
  have RS := Lib.hid (fun w' => refSum_any f m (by omega) w')
  obtain ⟨K, hK⟩ : ∃ K, keyB f m = K := ⟨_, rfl⟩
  rw [hK]
  have HK0 := Lib.hid hK
  clear hK
  go_enter Tryd.func16, Tryd.ntmps16
  have hlI : ((strOf f m).size : Int) = (m : Int) := by rw [hlen]
  clear hlen
  go_upto_if 10 with fail
  go_cut [0] (fun v0 wx => ∃ f' m', v0 = .string (strOf f' m') ∧ m' ≤ 64 ∧ keyB f' m' = K ∧ Below w.heap.size w wx)
  case first =>
    by_cases h64 : m ≤ 64
    · have h64I : ¬ (64 : Int) < (m : Int) := by omega
      go_wp2_with fail
      go_meet
      exact ⟨f, m, rfl, h64, HK0.out, Below.refl _ _⟩
    · have h64I : (64 : Int) < (m : Int) := by omega
      go_wp2_with fail
      with_reducible refine (RS.out w).mono ?_
      rintro e w1 ⟨rfl, hb1⟩
      go_wp2_with fail
      go_meet
      exact ⟨_, 32, rfl, by omega, (keyB_long f m h64).trans HK0.out, hb1⟩
  obtain ⟨f', m', rfl, hm', hk', hb1⟩ := hcut
  have B1 := Lib.hid hb1
  obtain ⟨w1, hw1⟩ : ∃ w1, w1 = wc := ⟨_, rfl⟩
  subst hw1
  have HK := Lib.hid hk'
  clear hb1 hk' HK0 RS hlI
  go_upto_region 3 with fail
  go_cut [5, 6] (fun v3 v4 wx => ∃ p q, v3 = .slice (some ⟨p, 0, none⟩) 64 64 ∧ v4 = .slice (some ⟨q, 0, none⟩) 64 64 ∧ p ≠ q ∧ w1.heap.size ≤ p ∧ w1.heap.size ≤ q ∧ wx.heap[p]? = some (.cells (bytesA (fun _ => 0#8) 64) 5 (0, 0)) ∧ wx.heap[q]? = some (.cells (bytesA (fun _ => 0#8) 64) 5 (0, 0)) ∧ Below w1.heap.size w1 wx)
  case first =>
    have hmk := made64
    go_region
    all_goals
      (go_wp2_with fail
       go_meet
       obtain ⟨h1, h2, h3⟩ := made_two64 w1 (.cells (bytesA (fun _ => 0#8) 64) 5)
       first
         | exact ⟨_, _, rfl, rfl, by omega, Nat.le_refl _, by omega, h1, h2, h3⟩
         | exact ⟨_, _, rfl, rfl, by omega, by omega, Nat.le_refl _, h2, h1, h3⟩)
  obtain ⟨p, q, rfl, rfl, hpq, hp1, hq1, rp, rq, bw⟩ := hcut
  obtain ⟨w2, cp2, S2⟩ := copy_text rp m' f' hm'
  obtain ⟨w3, cp3, S3⟩ := copy_text (S2.keep (k := q) (Ne.symm hpq) rq) m' f' hm'
  have rp3 := S3.keep (k := p) hpq S2.row
  have rq3 := S3.row
  rw [keyB_of f' m' hm', HK.out] at rp3 rq3
  have B3 := Lib.hid ((B1.out.trans (bw.mono B1.out.size)).trans ((S2.below _ (Nat.le_trans B1.out.size hp1)).trans (S3.below _ (Nat.le_trans B1.out.size hq1))))
  have P0 := Lib.hid rp3
  have Q0 := Lib.hid rq3
  clear S2 S3 rp3 rq3 bw rp rq
  go_wp2_with fail
  have hpl := lt_row P0.out
  have hql := lt_row Q0.out
  go_loopw [7] (fun s wr => ∃ i : Nat, i ≤ 64 ∧ s = .int .i64 (i : Int) ∧ wr.heap[p]? = some (.cells (bytesA (fun j => if j < i then xorB K 54#8 j else K j) 64) 5 (0, 0)) ∧ wr.heap[q]? = some (.cells (bytesA (fun j => if j < i then xorB K 92#8 j else K j) 64) 5 (0, 0)) ∧ Below w.heap.size w wr) (fun s _ => 64 - (intOf s).toNat)
  case atStart => exact ⟨0, by omega, rfl, by rw [bytesA_congr (g := K) (fun j _ => by rw [if_neg (by omega)])]; exact P0.out, by rw [bytesA_congr (g := K) (fun j _ => by rw [if_neg (by omega)])]; exact Q0.out, B3.out⟩
  case round =>
    obtain ⟨i, hi, rfl, rp, rq, bel⟩ := hrel
    have RP := Lib.hid rp
    have RQ := Lib.hid rq
    have BEL := Lib.hid bel
    have hw1 : w.heap.size ≤ w1.heap.size := B1.out.size
    clear rp rq bel
    by_cases hlt : i < 64
    · have hlI : (i : Int) < 64 := by omega
      have hlI' : (i : Int) < (64 : Nat) := by omega
      obtain ⟨kb, hkb⟩ : ∃ kb, K i = kb := ⟨_, rfl⟩
      have kp : wr.cell? ⟨p, i, none⟩ = some (.int .u8 (n8 kb)) := by rw [row_range RP.out hlt, if_neg (by omega), hkb]
      have kq : wr.cell? ⟨q, i, none⟩ = some (.int .u8 (n8 kb)) := by rw [row_range RQ.out hlt, if_neg (by omega), hkb]
      have hpr := lt_row RP.out
      have hqr := lt_row RQ.out
      have KP := Lib.hid (fun (w' : World) (hb : Below wr.heap.size wr w') => (show w'.cell? ⟨p, i, none⟩ = some (.int .u8 (n8 kb)) by rw [hb.cell (p := ⟨p, i, none⟩) hpr]; exact kp))
      have KQ := Lib.hid (fun (w' : World) (hb : Below wr.heap.size wr w') => (show w'.cell? ⟨q, i, none⟩ = some (.int .u8 (n8 kb)) by rw [hb.cell (p := ⟨q, i, none⟩) hqr]; exact kq))
      clear kp kq
      have HKB := Lib.hid hkb
      clear hkb P0 Q0 B3
      go_wp2_with fail
      have fp : wr.drew.frozen? ⟨p, i, none⟩ = false := frozen_of_row _ _ _ _ _ RP.out
      have fq : wr.drew.frozen? ⟨q, i, none⟩ = false := frozen_of_row _ _ _ _ _ RQ.out
      have kp := KP.out wr.drew (Below.refl _ _).drew
      have kq := KQ.out wr.drew (Below.refl _ _).drew
      have fp' : wr.frozen? ⟨p, i, none⟩ = false := frozen_of_row _ _ _ _ _ RP.out
      have fq' : wr.frozen? ⟨q, i, none⟩ = false := frozen_of_row _ _ _ _ _ RQ.out
      have kp' := KP.out wr (Below.refl _ _)
      have kq' := KQ.out wr (Below.refl _ _)
      have S1 := Lib.hid (rowSet_cell wr p i 5 _ (.int .u8 (n8 (kb ^^^ 54#8))) RP.out)
      have S2 := Lib.hid (rowSet_cell (wr.setCell ⟨p, i, none⟩ (.int .u8 (n8 (kb ^^^ 54#8)))) q i 5 _ (.int .u8 (n8 (kb ^^^ 92#8))) (S1.out.keep (k := q) (Ne.symm hpq) RQ.out))
      clear KP KQ
      go_region
      go_wp2_with fail
      go_roundw
      case rel =>
        have B4 := ((BEL.out.trans (S1.out.below _ (by omega))).trans (S2.out.below _ (by omega))).drew
        have up : ∀ (x : BitVec 8) (j : Nat), (if j = i then kb ^^^ x else if j < i then xorB K x j else K j) = (if j < i + 1 then xorB K x j else K j) := fun x j => by
          by_cases e : j = i
          · subst e; rw [if_pos rfl, if_pos (by omega)]; unfold xorB; rw [HKB.out]
          · rw [if_neg e]
            by_cases e2 : j < i
            · rw [if_pos e2, if_pos (by omega)]
            · rw [if_neg e2, if_neg (by omega)]
        refine ⟨i + 1, by omega, by go_num, ?_, ?_, B4⟩
        · have h := S1.out.row
          rw [bytesA_set, bytesA_congr (g := fun j => if j < i + 1 then xorB K 54#8 j else K j) (fun j _ => up _ j)] at h
          exact S2.out.keep (k := p) hpq h
        · have h := S2.out.row
          rw [bytesA_set, bytesA_congr (g := fun j => if j < i + 1 then xorB K 92#8 j else K j) (fun j _ => up _ j)] at h
          exact h
      case measure => (simp [intOf] <;> omega)
    · obtain rfl : i = 64 := by omega
      have rp : wr.heap[p]? = some (.cells (bytesA (xorB K 54#8) 64) 5 (0, 0)) := by
        have h := RP.out
        rw [bytesA_congr (g := xorB K 54#8) (fun j hj => by rw [if_pos hj])] at h
        exact h
      have rq : wr.heap[q]? = some (.cells (bytesA (xorB K 92#8) 64) 5 (0, 0)) := by
        have h := RQ.out
        rw [bytesA_congr (g := xorB K 92#8) (fun j hj => by rw [if_pos hj])] at h
        exact h
      have CP := Lib.hid (fun (w' : World) (hb : Below wr.heap.size wr w') => conv_in (xorB K 54#8) (some ⟨p, 0, none⟩) 64 64 w' (row_bytesIn ((hb.block p (lt_row rp)).trans rp) 64 (Nat.le_refl _) (by unfold maxLen; omega)))
      have CQ := Lib.hid (fun (w' : World) (hb : Below wr.heap.size wr w') => conv_in (xorB K 92#8) (some ⟨q, 0, none⟩) 64 64 w' (row_bytesIn ((hb.block q (lt_row rq)).trans rq) 64 (Nat.le_refl _) (by unfold maxLen; omega)))
      have j1 := Lib.hid (strOf_join (xorB K 54#8) g 64 n)
      obtain ⟨T1, hT1⟩ : ∃ T1, joinb (xorB K 54#8) 64 g = T1 := ⟨_, rfl⟩
      have h63 : ¬ 9223372036854775807 < 64 + n := by omega
      have r1 := Lib.hid (fun w' => refSum_any T1 (64 + n) (by omega) w')
      have j2 := Lib.hid (strOf_join (xorB K 92#8) (sumS T1 (64 + n)) 64 32)
      obtain ⟨T2, hT2⟩ : ∃ T2, joinb (xorB K 92#8) 64 (sumS T1 (64 + n)) = T2 := ⟨_, rfl⟩
      have r2 := Lib.hid (fun w' => refSum_any T2 (64 + 32) (by omega) w')
      have hfin : macB K g n = sumS T2 (64 + 32) := by rw [← hT2, ← hT1]; rfl
      have H7 := Lib.hid (show strOf (macB K g n) 32 = strOf (sumS T2 (64 + 32)) 32 by rw [hfin])
      rw [hT1] at j1
      rw [hT2] at j2
      have z1 := strOf_size (xorB K 54#8) 64
      have z2 := strOf_size (xorB K 92#8) 64
      have z3 := strOf_size g n
      have z4 := strOf_size (sumS T1 (64 + n)) 32
      have Z1 := Lib.hid z1
      have Z2 := Lib.hid z2
      have Z3 := Lib.hid z3
      have Z4 := Lib.hid z4
      clear z1 z2 z3 z4 hT1 hT2 hfin
      generalize strOf (xorB K 54#8) 64 = S1 at *
      generalize strOf (xorB K 92#8) 64 = S2 at *
      generalize strOf g n = S3 at *
      generalize strOf (sumS T1 (64 + n)) 32 = S4 at *
      generalize strOf T1 (64 + n) = S5 at *
      generalize strOf T2 (64 + 32) = S6 at *
      generalize strOf (sumS T2 (64 + 32)) 32 = S7 at *
      clear hlt hi rp rq RP RQ P0 Q0 B3
      go_wp2_with fail
      refine region_class1 9 (fun w' => Below wr.heap.size wr w') mixedOrders (by kernel_rfl) (Below.refl _ _).drew rfl ?_
      refine wpQuiet_take (by rfl) (fun K hK => ⟨.slice (some ⟨q, 0, none⟩) 64 64, fun w2' hw2 => ?_, hK _ ?_⟩)
      · clear hw2; go_simp
      clear hK K
      simp only [Act.put, List.setIfInBounds_toArray, List.set_cons_succ, List.set_cons_zero]
      refine wpQuiet_take (by rfl) (fun K hK => ⟨.string S2, fun w2' hw2 => ?_, hK _ ?_⟩)
      · have cs := CQ.out w2' hw2
        clear hw2
        go_simp
      clear hK K
      simp only [Act.put, List.setIfInBounds_toArray, List.set_cons_succ, List.set_cons_zero]
      refine wpQuiet_take (by rfl) (fun K hK => ⟨.slice (some ⟨p, 0, none⟩) 64 64, fun w2' hw2 => ?_, hK _ ?_⟩)
      · clear hw2; go_simp
      clear hK K
      simp only [Act.put, List.setIfInBounds_toArray, List.set_cons_succ, List.set_cons_zero]
      refine wpQuiet_take (by rfl) (fun K hK => ⟨.string S1, fun w2' hw2 => ?_, hK _ ?_⟩)
      · have cs := CP.out w2' hw2
        clear hw2
        go_simp
      clear hK K
      simp only [Act.put, List.setIfInBounds_toArray, List.set_cons_succ, List.set_cons_zero]
      refine wpQuiet_take (by rfl) (fun K hK => ⟨.string S3, fun w2' hw2 => ?_, hK _ ?_⟩)
      · clear hw2; go_simp
      clear hK K
      simp only [Act.put, List.setIfInBounds_toArray, List.set_cons_succ, List.set_cons_zero]
      refine wpQuiet_take (by rfl) (fun K hK => ⟨.string S5, fun w2' hw2 => ?_, hK _ ?_⟩)
      · have e := j1.out
        have z1 := Z1.out
        have z3 := Z3.out
        clear hw2
        go_simp
      clear hK K
      simp only [Act.put, List.setIfInBounds_toArray, List.set_cons_succ, List.set_cons_zero]
      refine wpQuiet_take (by rfl) (fun K hK => ⟨.string S4, fun w2' hw2 => ?_, hK _ ?_⟩)
      · go_simp
        go_at_call 21
        with_reducible refine (r1.out w2').mono ?_
        rintro e w5 ⟨rfl, hb5⟩
        exact ⟨rfl, hw2.trans (hb5.mono hw2.size)⟩
      clear hK K
      simp only [Act.put, List.setIfInBounds_toArray, List.set_cons_succ, List.set_cons_zero]
      refine wpQuiet_take (by rfl) (fun K hK => ⟨.string S6, fun w2' hw2 => ?_, hK _ ?_⟩)
      · have e := j2.out
        have z2 := Z2.out
        have z4 := Z4.out
        clear hw2
        go_simp
      clear hK K
      simp only [Act.put, List.setIfInBounds_toArray, List.set_cons_succ, List.set_cons_zero]
      refine wpQuiet_take (by rfl) (fun K hK => ⟨.string S7, fun w2' hw2 => ?_, hK _ ?_⟩)
      · go_simp
        go_at_call 21
        with_reducible refine (r2.out w2').mono ?_
        rintro e w5 ⟨rfl, hb5⟩
        exact ⟨rfl, hw2.trans (hb5.mono hw2.size)⟩
      clear hK K
      simp only [Act.put, List.setIfInBounds_toArray, List.set_cons_succ, List.set_cons_zero]
      refine wpQuiet_take0 ?_
      intro w6 hb6
      have B6 := Lib.hid (BEL.out.trans (hb6.mono BEL.out.size))
      clear hb6
      go_wp2_with fail
      go_ret
      exact ⟨by rw [H7.out]; rfl, B6.out⟩
end Go.Proofs.YtebhhonmpoeliaaDoor
