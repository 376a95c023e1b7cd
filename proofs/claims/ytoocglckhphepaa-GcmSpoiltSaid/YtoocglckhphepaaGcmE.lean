/-
  THE CALLS OF PACKAGE gcm, FIFTH PART: a register behind a text.
-/
import Derived.Test.YtoocglckhphepaaGcmD
import Derived.Laws.Cover3
namespace Go.Proofs.Ytoocglckhphepaa
open Go Go.RowKit Go.BigFrame
set_option maxRecDepth 100000
set_option linter.unusedSimpArgs false
set_option maxHeartbeats 8000000 in
theorem summed_any (h r : W2) (f : Nat → BitVec 8) (p : Nat) (a : Option Addr) (n c : Nat) (w : World) (hB : BoxH w p h) (hc : n ≤ c) (hcm : c ≤ maxLen)
    (hx : n = 0 ∨ ∃ bb bo, a = some ⟨bb, bo, none⟩ ∧ bb < w.heap.size ∧ ∀ i, i < n → w.cell? ⟨bb, bo + i, none⟩ = some (.int .u8 (n8 (f i)))) :
    Calls Try.prog 39 #[.pointer (some ⟨p, 0, none⟩), .agg #[.int .u64 (n64 r.hi), .int .u64 (n64 r.lo)], .slice a n c] w
      fun e w' => e = .returned (sumB h r f n).val ∧ Below w.heap.size w w' := by
  have HX := Lib.hid hx
  have HBX := Lib.hid hB
  have hcm' : c ≤ 9223372036854775807 := by unfold maxLen at hcm; omega
  clear hx hB hcm
  go_enter Try.func39, Try.ntmps39
  go_wp2_with fail
  have st0 : SumSt w (sumK h r f 0) ((w.alloc (.cells #[.int .u64 (n64 r.hi), .int .u64 (n64 r.lo)] 46)).alloc (.cells #[.int .u64 0, .int .u64 0] 46)) :=
    ⟨((Below.refl _ _).alloc (Nat.le_refl _) _).alloc (by simp) _, heap_alloc2_old _ _ _, heap_alloc2_new _ _ _⟩
  generalize hW : (World.alloc _ _).alloc _ = wa at *
  clear hW
  go_loopw [2] (fun s2 wr => ∃ (k m : Nat) (a' : Option Addr) (c' : Nat), s2 = .slice a' m c' ∧ 16 * k + m = n ∧ m ≤ c' ∧ c' ≤ c ∧ (m = 0 ∨ ∃ bb bo, a' = some ⟨bb, bo + 16 * k, none⟩ ∧ bb < w.heap.size ∧ ∀ i, i < n → w.cell? ⟨bb, bo + i, none⟩ = some (.int .u8 (n8 (f i)))) ∧ SumSt w (sumK h r f k) wr)
    (fun s2 _ => (match s2 with | .slice _ m _ => m | _ => 0))
  case atStart => exact ⟨0, n, a, c, rfl, by omega, hc, Nat.le_refl _, (by rcases HX.out with h | ⟨bb, bo, h1, h2, h3⟩; exact .inl h; exact .inr ⟨bb, bo, h1, h2, h3⟩), st0⟩
  case round =>
    clear st0
    obtain ⟨k, m, a', c', rfl, hm, hmc, hcc, hx, st⟩ := hrel
    by_cases h16 : 16 ≤ m
    · have h16I : (16 : Int) ≤ (m : Int) := by omega
      rcases hx with h0 | ⟨bb, bo, rfl, hbb, hcell⟩
      · omega
      obtain ⟨a2, hrun, ha2⟩ := run_from16 (some ⟨bb, bo + 16 * k, none⟩) m c' h16
      have hl2 : ((m : Int) - 16).toNat = m - 16 := by omega
      have facts : ∀ w', Below wr.heap.size wr w' → w'.cell? ⟨w.heap.size, 0, none⟩ = some (.int .u64 (n64 (sumK h r f k).hi)) ∧ w'.cell? ⟨w.heap.size, 1, none⟩ = some (.int .u64 (n64 (sumK h r f k).lo)) ∧
          w'.cell? ⟨p, 1, none⟩ = some (.int .u64 (n64 h.hi)) ∧ w'.cell? ⟨p, 2, none⟩ = some (.int .u64 (n64 h.lo)) ∧ (Instr.loadAt 22 (.pointer (some ⟨bb, bo + 16 * k, none⟩))).run Try.prog w' = .ok (.agg (b16 (fun i => f (16 * k + i)))) w' := fun w' hb => by
        have h1 := st.later hb
        have h2 := HBX.out.later h1.below
        exact ⟨h1.cells.1, h1.cells.2, h2.c1, h2.c2, load16_any _ _ _ _ (fun i hi => by rw [h1.below.cell (p := ⟨bb, _, none⟩) hbb, Nat.add_assoc]; exact hcell _ (by omega))⟩
      have av : ∀ w', (Instr.arrayAt 22 (.slice (some ⟨bb, bo + 16 * k, none⟩) m c')).run Try.prog w' = .ok (.pointer (some ⟨bb, bo + 16 * k, none⟩)) w' := fun w' => run_arrayAt w' 22 5 16 _ m c' (by kernel_rfl) h16
      have Facts := Lib.hid facts
      have HC := Lib.hid hcell
      clear facts hcell
      go_wp2_with fail
      refine region_class 11 (fun w' => Below wr.heap.size wr w') mixedOrders (by kernel_rfl) (Below.refl _ _).drew ?_
      simp only [List.take_succ_cons, List.take_zero, List.drop_succ_cons, List.drop_zero]
      iterate 3
        (refine wpQuiet_want (by rfl) (fun K hK => ?_)
         apply Exists.intro
         refine ⟨fun w' hw' => ?_, ?_⟩
         · obtain ⟨c0, c1, k1, k2, ld⟩ := Facts.out w' hw'
           have hw2 := Lib.hid hw'
           clear hw'
           go_simp
           first
             | rfl
             | (go_at_call 19
                refine (wordsOf2_any _ w').mono ?_
                rintro e w1 ⟨rfl, hb⟩
                exact ⟨rfl, hw2.out.trans (hb.mono hw2.out.size)⟩)
             | (go_at_call 40
                refine (together2_any _ _ _ _ w').mono ?_
                rintro e w1 ⟨rfl, hb⟩
                exact ⟨rfl, hw2.out.trans (hb.mono hw2.out.size)⟩)
             | (go_at_call 18
                refine (times2_any _ _ _ _ w').mono ?_
                rintro e w1 ⟨rfl, hb⟩
                exact ⟨rfl, hw2.out.trans (hb.mono hw2.out.size)⟩)
         (try simp only [W2.val])
         go_simp
         refine hK _ ?_
         clear hK K)
      refine wpQuiet_run (.agg (b16 (fun i => f (16 * k + i)))) (by rfl) (fun w' hw' => quiet_run (Facts.out w' hw').2.2.2.2) ?_
      simp only [Act.put, List.setIfInBounds_toArray, List.set_cons_succ, List.set_cons_zero]
      iterate 7
        (refine wpQuiet_want (by rfl) (fun K hK => ?_)
         apply Exists.intro
         refine ⟨fun w' hw' => ?_, ?_⟩
         · obtain ⟨c0, c1, k1, k2, ld⟩ := Facts.out w' hw'
           have hw2 := Lib.hid hw'
           clear hw'
           go_simp
           first
             | rfl
             | (go_at_call 19
                refine (wordsOf2_any _ w').mono ?_
                rintro e w1 ⟨rfl, hb⟩
                exact ⟨rfl, hw2.out.trans (hb.mono hw2.out.size)⟩)
             | (go_at_call 40
                refine (together2_any _ _ _ _ w').mono ?_
                rintro e w1 ⟨rfl, hb⟩
                exact ⟨rfl, hw2.out.trans (hb.mono hw2.out.size)⟩)
             | (go_at_call 18
                refine (times2_any _ _ _ _ w').mono ?_
                rintro e w1 ⟨rfl, hb⟩
                exact ⟨rfl, hw2.out.trans (hb.mono hw2.out.size)⟩)
         (try simp only [W2.val])
         go_simp
         refine hK _ ?_
         clear hK K)
      refine wpQuiet_nil ?_
      intro wz hz
      have st1 := st.later hz
      have st2 := st1.sets (sumK h r f (k + 1))
      obtain ⟨c0, c1⟩ := st1.cells
      have f0 := st1.free 0
      have f1 := st1.free 1
      have hy : W2.mul (W2.xor (sumK h r f k) (W2.of (fun i => f (16 * k + i)))) h = sumK h r f (k + 1) := rfl
      rw [hy]
      generalize hY : sumK h r f (k + 1) = y at *
      have HY := Lib.hid hY
      clear hz st1 st Facts av hy hY
      go_wp2_with fail
      go_roundw
      case rel =>
        refine ⟨k + 1, m - 16, a2, c' - 16, rfl, by omega, by omega, by omega, ?_, by rw [HY.out]; exact st2⟩
        by_cases h0 : m - 16 = 0
        · exact .inl h0
        · refine .inr ⟨bb, bo, ?_, hbb, HC.out⟩
          rw [ha2 (by omega)]
          show some (Addr.add ⟨bb, bo + 16 * k, none⟩ 16) = _
          unfold Addr.add
          split <;> simp_all [Nat.mul_add, Nat.add_assoc]
      case measure => simp; omega
    · have h16I : ¬ (16 : Int) ≤ (m : Int) := by omega
      have hk : n / 16 = k := by omega
      have hr : n % 16 = m := by omega
      by_cases hm0 : m = 0
      · have hmI : ¬ (0 : Int) < (m : Int) := by omega
        have he : sumB h r f n = sumK h r f k := by unfold sumB; rw [if_pos (by omega), hk]
        have HE := Lib.hid he
        clear he
        obtain ⟨c0, c1⟩ := st.cells
        obtain ⟨o0, o1⟩ := st.outs
        have f0 := st.outfree 0
        have f1 := st.outfree 1
        have hbz := st.below
        generalize sumK h r f k = z at *
        clear st
        go_wp2_with fail
        refine bodyPost_ret (v := z.val) (by simp [results, Try.results39, go_sem, W2.val, o0, o1]) rfl ⟨by rw [HE.out], ?_⟩
        exact (hbz.setCell (by simp) _).setCell (by simp) _
      · have hmI : (0 : Int) < (m : Int) := by omega
        rcases hx with h0 | ⟨bb, bo, rfl, hbb, hcell⟩
        · omega
        have he : sumB h r f n = W2.mul (W2.xor (sumK h r f k) (W2.of (padF (fun i => f (16 * k + i)) m))) h := by unfold sumB; rw [if_neg (by omega), hk, hr]
        have HE := Lib.hid he
        clear he
        have cp : (Builtin.copy_ #[25, 25] 3 #[.slice (some ⟨wr.heap.size, 0, none⟩) 16 16, .slice (some ⟨bb, bo + 16 * k, none⟩) m c']).run Try.prog (wr.alloc (.cells #[.int .u8 0, .int .u8 0, .int .u8 0, .int .u8 0, .int .u8 0, .int .u8 0, .int .u8 0, .int .u8 0, .int .u8 0, .int .u8 0, .int .u8 0, .int .u8 0, .int .u8 0, .int .u8 0, .int .u8 0, .int .u8 0] 22)) =
            .ok (goInt m) (wr.alloc (.cells (b16 (padF (fun i => f (16 * k + i)) m)) 22)) := by
          have h0 : (.cells #[.int .u8 0, .int .u8 0, .int .u8 0, .int .u8 0, .int .u8 0, .int .u8 0, .int .u8 0, .int .u8 0, .int .u8 0, .int .u8 0, .int .u8 0, .int .u8 0, .int .u8 0, .int .u8 0, .int .u8 0, .int .u8 0] 22 : Obj) = .cells (bytesArr (fun _ => 0#8) 16) 22 := by rw [bytes16_b16]; simp [b16, n8_zero]
          have hmm : m = Nat.min m 16 := (Nat.min_eq_left (by omega)).symm
          have rr := run_copy_bytes (fun i => f (16 * k + i)) (fun _ => 0#8) m wr.heap.size 0 16 16 bb (bo + 16 * k) c' m hmm 16 22 (wr.alloc (.cells (bytesArr (fun _ => 0#8) 16) 22)) (heap_alloc_last _ _) (by omega) (fun i hi => by
            rw [((Below.refl wr.heap.size wr).alloc (Nat.le_refl _) _).cell (p := ⟨bb, bo + 16 * k + i, none⟩) (Nat.lt_of_lt_of_le hbb st.below.size), st.below.cell (p := ⟨bb, bo + 16 * k + i, none⟩) hbb, Nat.add_assoc]
            exact hcell _ (by omega))
          rw [h0, rr, World.setRow_alloc_new, bytes16_b16]
          congr 4
          funext i
          simp [padF]
        clear hcell
        go_upto_region 7 with (fail)
        clear cp
        have st1 := st.later ((Below.refl wr.heap.size wr).alloc (Nat.le_refl _) (.cells (b16 (padF (fun i => f (16 * k + i)) m)) 22))
        have row7 : (wr.alloc (.cells (b16 (padF (fun i => f (16 * k + i)) m)) 22)).heap[wr.heap.size]? = some (.cells (b16 (padF (fun i => f (16 * k + i)) m)) 22 (0, 0)) := heap_alloc_last _ _
        generalize hW : wr.alloc _ = wb at *
        generalize wr.heap.size = q at *
        clear hW st
        have Row7 := Lib.hid row7
        clear row7
        have facts : ∀ w', Below wb.heap.size wb w' → w'.cell? ⟨w.heap.size, 0, none⟩ = some (.int .u64 (n64 (sumK h r f k).hi)) ∧ w'.cell? ⟨w.heap.size, 1, none⟩ = some (.int .u64 (n64 (sumK h r f k).lo)) ∧
            w'.cell? ⟨p, 1, none⟩ = some (.int .u64 (n64 h.hi)) ∧ w'.cell? ⟨p, 2, none⟩ = some (.int .u64 (n64 h.lo)) ∧ (Instr.loadAt 22 (.pointer (some ⟨q, 0, none⟩))).run Try.prog w' = .ok (.agg (b16 (padF (fun i => f (16 * k + i)) m))) w' := fun w' hb => by
          have h1 := st1.later hb
          have h2 := HBX.out.later h1.below
          exact ⟨h1.cells.1, h1.cells.2, h2.c1, h2.c2, load16_any _ _ _ _ (fun i hi => by rw [Nat.zero_add, hb.cell (p := ⟨q, i, none⟩) (lt_of_heap Row7.out), cell_of_row _ _ _ _ _ _ Row7.out]; exact b16_get _ _ hi)⟩
        have Facts := Lib.hid facts
        clear facts
        refine region_class 9 (fun w' => Below wb.heap.size wb w') mixedOrders (by kernel_rfl) (Below.refl _ _).drew ?_
        simp only [List.take_succ_cons, List.take_zero, List.drop_succ_cons, List.drop_zero]
        iterate 1
          (refine wpQuiet_want (by rfl) (fun K hK => ?_)
           apply Exists.intro
           refine ⟨fun w' hw' => ?_, ?_⟩
           · obtain ⟨c0, c1, k1, k2, ld⟩ := Facts.out w' hw'
             have hw2 := Lib.hid hw'
             clear hw'
             go_simp
             first
               | rfl
               | (go_at_call 19
                  refine (wordsOf2_any _ w').mono ?_
                  rintro e w1 ⟨rfl, hb⟩
                  exact ⟨rfl, hw2.out.trans (hb.mono hw2.out.size)⟩)
               | (go_at_call 40
                  refine (together2_any _ _ _ _ w').mono ?_
                  rintro e w1 ⟨rfl, hb⟩
                  exact ⟨rfl, hw2.out.trans (hb.mono hw2.out.size)⟩)
               | (go_at_call 18
                  refine (times2_any _ _ _ _ w').mono ?_
                  rintro e w1 ⟨rfl, hb⟩
                  exact ⟨rfl, hw2.out.trans (hb.mono hw2.out.size)⟩)
           (try simp only [W2.val])
           go_simp
           refine hK _ ?_
           clear hK K)
        refine wpQuiet_run (.agg (b16 (padF (fun i => f (16 * k + i)) m))) (by rfl) (fun w' hw' => quiet_run (Facts.out w' hw').2.2.2.2) ?_
        simp only [Act.put, List.setIfInBounds_toArray, List.set_cons_succ, List.set_cons_zero]
        iterate 7
          (refine wpQuiet_want (by rfl) (fun K hK => ?_)
           apply Exists.intro
           refine ⟨fun w' hw' => ?_, ?_⟩
           · obtain ⟨c0, c1, k1, k2, ld⟩ := Facts.out w' hw'
             have hw2 := Lib.hid hw'
             clear hw'
             go_simp
             first
               | rfl
               | (go_at_call 19
                  refine (wordsOf2_any _ w').mono ?_
                  rintro e w1 ⟨rfl, hb⟩
                  exact ⟨rfl, hw2.out.trans (hb.mono hw2.out.size)⟩)
               | (go_at_call 40
                  refine (together2_any _ _ _ _ w').mono ?_
                  rintro e w1 ⟨rfl, hb⟩
                  exact ⟨rfl, hw2.out.trans (hb.mono hw2.out.size)⟩)
               | (go_at_call 18
                  refine (times2_any _ _ _ _ w').mono ?_
                  rintro e w1 ⟨rfl, hb⟩
                  exact ⟨rfl, hw2.out.trans (hb.mono hw2.out.size)⟩)
           (try simp only [W2.val])
           go_simp
           refine hK _ ?_
           clear hK K)
        refine wpQuiet_nil ?_
        intro wz hz
        have st2 := st1.later hz
        have st3 := st2.sets (W2.mul (W2.xor (sumK h r f k) (W2.of (padF (fun i => f (16 * k + i)) m))) h)
        obtain ⟨c0, c1⟩ := st2.cells
        have f0 := st2.free 0
        have f1 := st2.free 1
        obtain ⟨o0, o1⟩ := st2.outs
        have g0 := st2.outfree 0
        have g1 := st2.outfree 1
        have hbz := st2.below
        generalize hy : W2.mul _ h = y at *
        have HY := Lib.hid hy
        clear hz st1 st2 st3 Facts hy
        go_wp2_with fail
        refine bodyPost_ret (v := y.val) (by simp [results, Try.results39, go_sem, W2.val, o0, o1]) rfl ⟨by rw [HE.out, ← HY.out], ?_⟩
        exact (((hbz.setCell (by simp) _).setCell (by simp) _).setCell (by simp) _).setCell (by simp) _
end Go.Proofs.Ytoocglckhphepaa
