/-
  TEXTS PUT TOGETHER: GcmE, GcmF, GcmG.
-/
import Derived.Test.YtjbpjoondmcnlabDoorMg22
import Derived.Laws.Cover3
import Derived.Test.YtjbpjoondmcnlabDoorMg07
set_option maxRecDepth 100000
/-
  THE CALLS OF PACKAGE gcm, FIFTH PART: a register behind a text.
-/
namespace Go.Proofs.YtjbpjoondmcnlabDoor
open Go Go.RowKit Go.BigFrame
set_option maxRecDepth 100000
set_option linter.unusedSimpArgs false
set_option maxHeartbeats 8000000 in
theorem summed_any (h r : W2) (f : Nat → BitVec 8) (p : Nat) (a : Option Addr) (n c : Nat) (w : World) (hB : BoxH w p h) (hc : n ≤ c) (hcm : c ≤ maxLen)
    (hx : n = 0 ∨ ∃ bb bo, a = some ⟨bb, bo, none⟩ ∧ bb < w.heap.size ∧ ∀ i, i < n → w.cell? ⟨bb, bo + i, none⟩ = some (.int .u8 (n8 (f i)))) :
    Calls Tryd.prog 74 #[.pointer (some ⟨p, 0, none⟩), .agg #[.int .u64 (n64 r.hi), .int .u64 (n64 r.lo)], .slice a n c] w
      fun e w' => e = .returned (sumGB h r f n).val ∧ Below w.heap.size w w' := by
  have HX := Lib.hid hx
  have HBX := Lib.hid hB
  have hcm' : c ≤ 9223372036854775807 := by unfold maxLen at hcm; omega
  clear hx hB hcm
  go_enter Tryd.func74, Tryd.ntmps74
  go_wp2_with fail
  have st0 : SumSt w (sumK h r f 0) ((w.alloc (.cells #[.int .u64 (n64 r.hi), .int .u64 (n64 r.lo)] 91)).alloc (.cells #[.int .u64 0, .int .u64 0] 91)) :=
    ⟨((Below.refl _ _).alloc (Nat.le_refl _) _).alloc (by simp) _, heap_alloc2_old _ _ _, heap_alloc2_new _ _ _⟩
  generalize hW : (World.alloc _ _).alloc _ = wa at *
  clear hW
  go_loopw [2] (fun s2 wr => ∃ (k m : Nat) (a' : Option Addr) (c' : Nat), s2 = .slice a' m c' ∧ 16 * k + m = n ∧ m ≤ c' ∧ c' ≤ c ∧ (m = 0 ∨ ∃ bb bo, a' = some ⟨bb, bo + 16 * k, none⟩ ∧ bb < w.heap.size ∧ ∀ i, i < n → w.cell? ⟨bb, bo + i, none⟩ = some (.int .u8 (n8 (f i)))) ∧ SumSt w (sumK h r f k) wr)
    (fun s2 _ => (match s2 with | .slice _ m _ => m | _ => 0))
  case atStart => exact ⟨0, n, a, c, rfl, by omega, hc, Nat.le_refl _, (by rcases HX.out with h | ⟨bb, bo, h1, h2, h3⟩; exact .inl h; exact .inr ⟨bb, bo, h1, h2, h3⟩), st0⟩
  case round =>
    clear st0
    obtain ⟨k, m, a', c', rfl, hm, hmc, hcc, hx, st⟩ := hrel
    by_cases h16 : 16 ≤ m
    · have h16I : (16 : Int) ≤ (m : Int) := by omega
      rcases hx with h0 | ⟨bb, bo, rfl, hbb, hcell⟩
      · omega
      obtain ⟨a2, hrun, ha2⟩ := run_from16 (some ⟨bb, bo + 16 * k, none⟩) m c' h16
      have hl2 : ((m : Int) - 16).toNat = m - 16 := by omega
      have facts : ∀ w', Below wr.heap.size wr w' → w'.cell? ⟨w.heap.size, 0, none⟩ = some (.int .u64 (n64 (sumK h r f k).hi)) ∧ w'.cell? ⟨w.heap.size, 1, none⟩ = some (.int .u64 (n64 (sumK h r f k).lo)) ∧
          w'.cell? ⟨p, 1, none⟩ = some (.int .u64 (n64 h.hi)) ∧ w'.cell? ⟨p, 2, none⟩ = some (.int .u64 (n64 h.lo)) ∧ (Instr.loadAt 93 (.pointer (some ⟨bb, bo + 16 * k, none⟩))).run Tryd.prog w' = .ok (.agg (b16 (fun i => f (16 * k + i)))) w' := fun w' hb => by
        have h1 := st.later hb
        have h2 := HBX.out.later h1.below
        exact ⟨h1.cells.1, h1.cells.2, h2.c1, h2.c2, load16_any _ _ _ _ (fun i hi => by rw [h1.below.cell (p := ⟨bb, _, none⟩) hbb, Nat.add_assoc]; exact hcell _ (by omega))⟩
      have av : ∀ w', (Instr.arrayAt 93 (.slice (some ⟨bb, bo + 16 * k, none⟩) m c')).run Tryd.prog w' = .ok (.pointer (some ⟨bb, bo + 16 * k, none⟩)) w' := fun w' => run_arrayAt w' 93 5 16 _ m c' (by kernel_rfl) h16
      have Facts := Lib.hid facts
      have HC := Lib.hid hcell
      clear facts hcell
      go_wp2_with fail
      refine region_class 11 (fun w' => Below wr.heap.size wr w') mixedOrders (by kernel_rfl) (Below.refl _ _).drew ?_
      simp only [List.take_succ_cons, List.take_zero, List.drop_succ_cons, List.drop_zero]
      iterate 3
        (refine wpQuiet_want (by rfl) (fun K hK => ?_)
         apply Exists.intro
         refine ⟨fun w' hw' => ?_, ?_⟩
         · obtain ⟨c0, c1, k1, k2, ld⟩ := Facts.out w' hw'
           have hw2 := Lib.hid hw'
           clear hw'
           go_simp
           first
             | rfl
             | (go_at_call 49
                refine (wordsOf2_any _ w').mono ?_
                rintro e w1 ⟨rfl, hb⟩
                exact ⟨rfl, hw2.out.trans (hb.mono hw2.out.size)⟩)
             | (go_at_call 76
                refine (together2_any _ _ _ _ w').mono ?_
                rintro e w1 ⟨rfl, hb⟩
                exact ⟨rfl, hw2.out.trans (hb.mono hw2.out.size)⟩)
             | (go_at_call 75
                refine (times2_any _ _ _ _ w').mono ?_
                rintro e w1 ⟨rfl, hb⟩
                exact ⟨rfl, hw2.out.trans (hb.mono hw2.out.size)⟩)
         (try simp only [W2.val])
         go_simp
         refine hK _ ?_
         clear hK K)
      refine wpQuiet_run (.agg (b16 (fun i => f (16 * k + i)))) (by rfl) (fun w' hw' => quiet_run (Facts.out w' hw').2.2.2.2) ?_
      simp only [Act.put, List.setIfInBounds_toArray, List.set_cons_succ, List.set_cons_zero]
      iterate 7
        (refine wpQuiet_want (by rfl) (fun K hK => ?_)
         apply Exists.intro
         refine ⟨fun w' hw' => ?_, ?_⟩
         · obtain ⟨c0, c1, k1, k2, ld⟩ := Facts.out w' hw'
           have hw2 := Lib.hid hw'
           clear hw'
           go_simp
           first
             | rfl
             | (go_at_call 49
                refine (wordsOf2_any _ w').mono ?_
                rintro e w1 ⟨rfl, hb⟩
                exact ⟨rfl, hw2.out.trans (hb.mono hw2.out.size)⟩)
             | (go_at_call 76
                refine (together2_any _ _ _ _ w').mono ?_
                rintro e w1 ⟨rfl, hb⟩
                exact ⟨rfl, hw2.out.trans (hb.mono hw2.out.size)⟩)
             | (go_at_call 75
                refine (times2_any _ _ _ _ w').mono ?_
                rintro e w1 ⟨rfl, hb⟩
                exact ⟨rfl, hw2.out.trans (hb.mono hw2.out.size)⟩)
         (try simp only [W2.val])
         go_simp
         refine hK _ ?_
         clear hK K)
      refine wpQuiet_nil ?_
      intro wz hz
      have st1 := st.later hz
      have st2 := st1.sets (sumK h r f (k + 1))
      obtain ⟨c0, c1⟩ := st1.cells
      have f0 := st1.free 0
      have f1 := st1.free 1
      have hy : W2.mul (W2.xor (sumK h r f k) (W2.of (fun i => f (16 * k + i)))) h = sumK h r f (k + 1) := rfl
      rw [hy]
      generalize hY : sumK h r f (k + 1) = y at *
      have HY := Lib.hid hY
      clear hz st1 st Facts av hy hY
      go_wp2_with fail
      go_roundw
      case rel =>
        refine ⟨k + 1, m - 16, a2, c' - 16, rfl, by omega, by omega, by omega, ?_, by rw [HY.out]; exact st2⟩
        by_cases h0 : m - 16 = 0
        · exact .inl h0
        · refine .inr ⟨bb, bo, ?_, hbb, HC.out⟩
          rw [ha2 (by omega)]
          show some (Addr.add ⟨bb, bo + 16 * k, none⟩ 16) = _
          unfold Addr.add
          split <;> simp_all [Nat.mul_add, Nat.add_assoc]
      case measure => simp; omega
    · have h16I : ¬ (16 : Int) ≤ (m : Int) := by omega
      have hk : n / 16 = k := by omega
      have hr : n % 16 = m := by omega
      by_cases hm0 : m = 0
      · have hmI : ¬ (0 : Int) < (m : Int) := by omega
        have he : sumGB h r f n = sumK h r f k := by unfold sumGB; rw [if_pos (by omega), hk]
        have HE := Lib.hid he
        clear he
        obtain ⟨c0, c1⟩ := st.cells
        obtain ⟨o0, o1⟩ := st.outs
        have f0 := st.outfree 0
        have f1 := st.outfree 1
        have hbz := st.below
        generalize sumK h r f k = z at *
        clear st
        go_wp2_with fail
        refine bodyPost_ret (v := z.val) (by simp [results, Tryd.results74, go_sem, W2.val, o0, o1]) rfl ⟨by rw [HE.out], ?_⟩
        exact (hbz.setCell (by simp) _).setCell (by simp) _
      · have hmI : (0 : Int) < (m : Int) := by omega
        rcases hx with h0 | ⟨bb, bo, rfl, hbb, hcell⟩
        · omega
        have he : sumGB h r f n = W2.mul (W2.xor (sumK h r f k) (W2.of (padF (fun i => f (16 * k + i)) m))) h := by unfold sumGB; rw [if_neg (by omega), hk, hr]
        have HE := Lib.hid he
        clear he
        have cp : (Builtin.copy_ #[31, 31] 3 #[.slice (some ⟨wr.heap.size, 0, none⟩) 16 16, .slice (some ⟨bb, bo + 16 * k, none⟩) m c']).run Tryd.prog (wr.alloc (.cells #[.int .u8 0, .int .u8 0, .int .u8 0, .int .u8 0, .int .u8 0, .int .u8 0, .int .u8 0, .int .u8 0, .int .u8 0, .int .u8 0, .int .u8 0, .int .u8 0, .int .u8 0, .int .u8 0, .int .u8 0, .int .u8 0] 93)) =
            .ok (goInt m) (wr.alloc (.cells (b16 (padF (fun i => f (16 * k + i)) m)) 93)) := by
          have h0 : (.cells #[.int .u8 0, .int .u8 0, .int .u8 0, .int .u8 0, .int .u8 0, .int .u8 0, .int .u8 0, .int .u8 0, .int .u8 0, .int .u8 0, .int .u8 0, .int .u8 0, .int .u8 0, .int .u8 0, .int .u8 0, .int .u8 0] 93 : Obj) = .cells (bytesArr (fun _ => 0#8) 16) 93 := by rw [bytes16_b16]; simp [b16, n8_zero]
          have hmm : m = Nat.min m 16 := (Nat.min_eq_left (by omega)).symm
          have rr := run_copy_bytes (fun i => f (16 * k + i)) (fun _ => 0#8) m wr.heap.size 0 16 16 bb (bo + 16 * k) c' m hmm 16 93 (wr.alloc (.cells (bytesArr (fun _ => 0#8) 16) 93)) (heap_alloc_last _ _) (by omega) (fun i hi => by
            rw [((Below.refl wr.heap.size wr).alloc (Nat.le_refl _) _).cell (p := ⟨bb, bo + 16 * k + i, none⟩) (Nat.lt_of_lt_of_le hbb st.below.size), st.below.cell (p := ⟨bb, bo + 16 * k + i, none⟩) hbb, Nat.add_assoc]
            exact hcell _ (by omega))
          rw [h0, rr, World.setRow_alloc_new, bytes16_b16]
          congr 4
          funext i
          simp [padF]
        clear hcell
        go_upto_region 7 with (fail)
        clear cp
        have st1 := st.later ((Below.refl wr.heap.size wr).alloc (Nat.le_refl _) (.cells (b16 (padF (fun i => f (16 * k + i)) m)) 93))
        have row7 : (wr.alloc (.cells (b16 (padF (fun i => f (16 * k + i)) m)) 93)).heap[wr.heap.size]? = some (.cells (b16 (padF (fun i => f (16 * k + i)) m)) 93 (0, 0)) := heap_alloc_last _ _
        generalize hW : wr.alloc _ = wb at *
        generalize wr.heap.size = q at *
        clear hW st
        have Row7 := Lib.hid row7
        clear row7
        have facts : ∀ w', Below wb.heap.size wb w' → w'.cell? ⟨w.heap.size, 0, none⟩ = some (.int .u64 (n64 (sumK h r f k).hi)) ∧ w'.cell? ⟨w.heap.size, 1, none⟩ = some (.int .u64 (n64 (sumK h r f k).lo)) ∧
            w'.cell? ⟨p, 1, none⟩ = some (.int .u64 (n64 h.hi)) ∧ w'.cell? ⟨p, 2, none⟩ = some (.int .u64 (n64 h.lo)) ∧ (Instr.loadAt 93 (.pointer (some ⟨q, 0, none⟩))).run Tryd.prog w' = .ok (.agg (b16 (padF (fun i => f (16 * k + i)) m))) w' := fun w' hb => by
          have h1 := st1.later hb
          have h2 := HBX.out.later h1.below
          exact ⟨h1.cells.1, h1.cells.2, h2.c1, h2.c2, load16_any _ _ _ _ (fun i hi => by rw [Nat.zero_add, hb.cell (p := ⟨q, i, none⟩) (lt_of_heap Row7.out), cell_of_row _ _ _ _ _ _ Row7.out]; exact b16_get _ _ hi)⟩
        have Facts := Lib.hid facts
        clear facts
        refine region_class 9 (fun w' => Below wb.heap.size wb w') mixedOrders (by kernel_rfl) (Below.refl _ _).drew ?_
        simp only [List.take_succ_cons, List.take_zero, List.drop_succ_cons, List.drop_zero]
        iterate 1
          (refine wpQuiet_want (by rfl) (fun K hK => ?_)
           apply Exists.intro
           refine ⟨fun w' hw' => ?_, ?_⟩
           · obtain ⟨c0, c1, k1, k2, ld⟩ := Facts.out w' hw'
             have hw2 := Lib.hid hw'
             clear hw'
             go_simp
             first
               | rfl
               | (go_at_call 49
                  refine (wordsOf2_any _ w').mono ?_
                  rintro e w1 ⟨rfl, hb⟩
                  exact ⟨rfl, hw2.out.trans (hb.mono hw2.out.size)⟩)
               | (go_at_call 76
                  refine (together2_any _ _ _ _ w').mono ?_
                  rintro e w1 ⟨rfl, hb⟩
                  exact ⟨rfl, hw2.out.trans (hb.mono hw2.out.size)⟩)
               | (go_at_call 75
                  refine (times2_any _ _ _ _ w').mono ?_
                  rintro e w1 ⟨rfl, hb⟩
                  exact ⟨rfl, hw2.out.trans (hb.mono hw2.out.size)⟩)
           (try simp only [W2.val])
           go_simp
           refine hK _ ?_
           clear hK K)
        refine wpQuiet_run (.agg (b16 (padF (fun i => f (16 * k + i)) m))) (by rfl) (fun w' hw' => quiet_run (Facts.out w' hw').2.2.2.2) ?_
        simp only [Act.put, List.setIfInBounds_toArray, List.set_cons_succ, List.set_cons_zero]
        iterate 7
          (refine wpQuiet_want (by rfl) (fun K hK => ?_)
           apply Exists.intro
           refine ⟨fun w' hw' => ?_, ?_⟩
           · obtain ⟨c0, c1, k1, k2, ld⟩ := Facts.out w' hw'
             have hw2 := Lib.hid hw'
             clear hw'
             go_simp
             first
               | rfl
               | (go_at_call 49
                  refine (wordsOf2_any _ w').mono ?_
                  rintro e w1 ⟨rfl, hb⟩
                  exact ⟨rfl, hw2.out.trans (hb.mono hw2.out.size)⟩)
               | (go_at_call 76
                  refine (together2_any _ _ _ _ w').mono ?_
                  rintro e w1 ⟨rfl, hb⟩
                  exact ⟨rfl, hw2.out.trans (hb.mono hw2.out.size)⟩)
               | (go_at_call 75
                  refine (times2_any _ _ _ _ w').mono ?_
                  rintro e w1 ⟨rfl, hb⟩
                  exact ⟨rfl, hw2.out.trans (hb.mono hw2.out.size)⟩)
           (try simp only [W2.val])
           go_simp
           refine hK _ ?_
           clear hK K)
        refine wpQuiet_nil ?_
        intro wz hz
        have st2 := st1.later hz
        have st3 := st2.sets (W2.mul (W2.xor (sumK h r f k) (W2.of (padF (fun i => f (16 * k + i)) m))) h)
        obtain ⟨c0, c1⟩ := st2.cells
        have f0 := st2.free 0
        have f1 := st2.free 1
        obtain ⟨o0, o1⟩ := st2.outs
        have g0 := st2.outfree 0
        have g1 := st2.outfree 1
        have hbz := st2.below
        generalize hy : W2.mul _ h = y at *
        have HY := Lib.hid hy
        clear hz st1 st2 st3 Facts hy
        go_wp2_with fail
        refine bodyPost_ret (v := y.val) (by simp [results, Tryd.results74, go_sem, W2.val, o0, o1]) rfl ⟨by rw [HE.out, ← HY.out], ?_⟩
        exact (((hbz.setCell (by simp) _).setCell (by simp) _).setCell (by simp) _).setCell (by simp) _
end Go.Proofs.YtjbpjoondmcnlabDoor
/-
  THE CALLS OF PACKAGE gcm, SIXTH PART: whether bytes are the same; whether a box takes a nonce; a new box.
-/
namespace Go.Proofs.YtjbpjoondmcnlabDoor
open Go Go.RowKit Go.BigFrame
set_option maxRecDepth 100000
set_option linter.unusedSimpArgs false
structure BoxAt (w : World) (p q : Nat) (ks : Nat → BitVec 32) (h : W2) : Prop where
  c0 : w.cell? ⟨p, 0, none⟩ = some (.pointer (some ⟨q, 0, none⟩))
  hh : BoxH w p h
  cip : CipherAt w q ks
theorem BoxAt.later {w w1 : World} {p q : Nat} {ks : Nat → BitVec 32} {h : W2} (b : BoxAt w p q ks h) (hb : Below w.heap.size w w1) : BoxAt w1 p q ks h :=
  ⟨by rw [hb.cell (p := ⟨p, 0, none⟩) b.hh.lt]; exact b.c0, b.hh.later hb, b.cip.later hb⟩
set_option maxHeartbeats 1000000 in
theorem takes_nil (a : Option Addr) (n c : Nat) (w : World) :
    Calls Tryd.prog 50 #[.pointer none, .slice a n c] w fun e w' => e = .returned (.bool false) ∧ w = w' := by
  go_enter Tryd.func50, Tryd.ntmps50
  go_wp2
  go_ret
  exact ⟨rfl, rfl⟩
set_option maxHeartbeats 1000000 in
theorem takes_yes (p q : Nat) (ks : Nat → BitVec 32) (h : W2) (a : Option Addr) (c : Nat) (w : World) (hb : BoxAt w p q ks h) :
    Calls Tryd.prog 50 #[.pointer (some ⟨p, 0, none⟩), .slice a 12 c] w fun e w' => e = .returned (.bool true) ∧ w = w' := by
  have c0 := hb.c0
  go_enter Tryd.func50, Tryd.ntmps50
  go_wp2
  go_ret
  exact ⟨rfl, rfl⟩
set_option maxHeartbeats 1000000 in
theorem takes_no (p q : Nat) (ks : Nat → BitVec 32) (h : W2) (a : Option Addr) (n c : Nat) (w : World) (hb : BoxAt w p q ks h) (hn : n ≠ 12) :
    Calls Tryd.prog 50 #[.pointer (some ⟨p, 0, none⟩), .slice a n c] w fun e w' => e = .returned (.bool false) ∧ w = w' := by
  have c0 := hb.c0
  have h1 : ((n : Int) != 12) = true := by rw [bne_iff_ne]; omega
  have h2 : ((n : Int) == 12) = false := beq_eq_false_iff_ne.2 (by omega)
  go_enter Tryd.func50, Tryd.ntmps50
  go_wp2
  go_ret
  exact ⟨by simp [h2], rfl⟩
theorem n8_eq0 (d : BitVec 8) : (n8 d == 0) = (d == 0#8) := by
  rw [Bool.eq_iff_iff, beq_iff_eq, beq_iff_eq, ← n8_zero, n8_inj]
/-- What bytes differ by, all together. -/
def accD (f g : Nat → BitVec 8) : Nat → BitVec 8
  | 0 => 0#8
  | k + 1 => accD f g k ||| (f k ^^^ g k)
theorem accD_zero (f g : Nat → BitVec 8) (n : Nat) : accD f g n = 0#8 ↔ ∀ i, i < n → f i = g i := by
  induction n with
  | zero => simp [accD]
  | succ n ih =>
    unfold accD
    rw [BitVec.or_eq_zero_iff, ih, BitVec.xor_eq_zero_iff]
    constructor
    · rintro ⟨h1, h2⟩ i hi
      by_cases hin : i = n
      · rw [hin]; exact h2
      · exact h1 i (by omega)
    · intro h
      exact ⟨fun i hi => h i (by omega), h n (by omega)⟩
set_option maxHeartbeats 2000000 in
theorem same_short (a a' : Option Addr) (n m c c' : Nat) (w : World) (hn : n ≠ m) :
    Calls Tryd.prog 78 #[.slice a n c, .slice a' m c'] w fun e w' => e = .returned (.bool false) ∧ w = w' := by
  have h1 : ((n : Int) != (m : Int)) = true := by rw [bne_iff_ne]; omega
  have h2 : ((n : Int) == (m : Int)) = false := beq_eq_false_iff_ne.2 (by omega)
  have h3 : ¬ n = m := hn
  go_enter Tryd.func78, Tryd.ntmps78
  go_wp2
  go_ret
  exact ⟨rfl, rfl⟩
set_option maxHeartbeats 2000000 in
theorem same_any (f g : Nat → BitVec 8) (a a' : Option Addr) (n c c' : Nat) (w : World) (hc : n ≤ maxLen)
    (hx : BytesIn w a n f) (hy : BytesIn w a' n g) :
    Calls Tryd.prog 78 #[.slice a n c, .slice a' n c'] w fun e w' => e = .returned (.bool (accD f g n == 0#8)) ∧ w = w' := by
  have HX := Lib.hid hx.2
  have HY := Lib.hid hy.2
  have hc' : n ≤ 9223372036854775807 := by unfold maxLen at hc; omega
  clear hx hy hc
  go_enter Tryd.func78, Tryd.ntmps78
  go_wp2
  go_loopw [5, 15] (fun s5 s15 wr => ∃ k : Nat, k ≤ n ∧ s15 = .int .i64 (k : Int) ∧ s5 = .int .u8 (n8 (accD f g k)) ∧ wr = w)
    (fun _ s15 _ => n - (intOf s15).toNat)
  case atStart => exact ⟨0, by omega, rfl, by rw [show accD f g 0 = 0#8 from rfl, n8_zero], rfl⟩
  case round =>
    obtain ⟨k, hk, rfl, rfl, rfl⟩ := hrel
    by_cases hkn : k < n
    · have hkI : (k : Int) < (n : Int) := by omega
      rcases HX.out with h0 | ⟨bb, bo, rfl, _, hf⟩
      · omega
      rcases HY.out with h0 | ⟨cb, co, rfl, _, hg⟩
      · omega
      have c0 := hf k hkn
      have c1 := hg k hkn
      have hs : accD f g (k + 1) = accD f g k ||| (f k ^^^ g k) := rfl
      have HS := Lib.hid hs
      clear hs hf hg
      generalize accD f g k = d at *
      go_wp2_with fail
      go_roundw
      case rel =>
        refine ⟨k + 1, by omega, by go_num, by rw [HS.out], ?_⟩
        first | rfl | trivial
      case measure => simp [intOf]; omega
    · obtain rfl : k = n := by omega
      generalize hd : accD f g k = d at *
      have HD := Lib.hid hd
      clear hd
      go_wp2_with fail
      go_ret
      refine ⟨?_, rfl⟩
      show Ending.returned (Value.bool (n8 d == 0)) = _
      rw [HD.out, n8_eq0]
end Go.Proofs.YtjbpjoondmcnlabDoor
/-
  THE CALLS OF PACKAGE gcm, SEVENTH PART: a new box; bytes put together with a nonce's stream.
-/
namespace Go.Proofs.YtjbpjoondmcnlabDoor
open Go Go.RowKit Go.BigFrame
set_option maxRecDepth 100000
set_option linter.unusedSimpArgs false
/-- The box's H of a key's words. -/
def hOf (ks : Nat → BitVec 32) : W2 := W2.of (turned sbox ks (W4.of (fun _ => 0#8))).byte
/-- What a nonce's stream makes of bytes. -/
def hid (ks : Nat → BitVec 32) (f xs : Nat → BitVec 8) (i : Nat) : BitVec 8 := xs i ^^^ strm ks (W4.of (ctrN f 2#8)) i
theorem run_make16 (w : World) : (Instr.makeSlice 31 (.int .i64 16) (.int .i64 16)).run Tryd.prog w = .ok (.slice (some ⟨w.heap.size, 0, none⟩) 16 16) (w.alloc (.cells (bytesArr (fun _ => 0#8) 16) 5)) := run_make_bytes 16 (by omega) w
set_option maxHeartbeats 4000000 in
theorem gnew_bad (a : Option Addr) (n c : Nat) (w : World) (hn : n ≠ 16) :
    Calls Tryd.prog 26 #[.slice a n c] w fun e w' => e = .returned (.tuple #[.pointer none, .int .i64 1]) ∧ w = w' := by
  go_enter Tryd.func26, Tryd.ntmps26
  go_wp2_with fail
  refine (new_bad a n c w hn).mono ?_
  rintro e w1 ⟨rfl, rfl⟩
  go_wp2_with fail
  go_ret2
  exact ⟨rfl, rfl⟩
set_option maxHeartbeats 4000000 in
theorem gnew_ok (b : Nat → BitVec 8) (kb ko c : Nat) (w : World) (hb : ∀ i, i < 16 → w.cell? ⟨kb, ko + i, none⟩ = some (.int .u8 (n8 (b i)))) (hkb : kb < w.heap.size) :
    Calls Tryd.prog 26 #[.slice (some ⟨kb, ko, none⟩) 16 c] w fun e w' => ∃ p q, e = .returned (.tuple #[.pointer (some ⟨p, 0, none⟩), .int .i64 0]) ∧ w.heap.size ≤ p ∧ Below w.heap.size w w' ∧ BoxAt w' p q (sched b) (hOf (sched b)) := by
  have N := Lib.hid (new_ok b kb ko c w hb hkb)
  clear hb hkb
  go_enter Tryd.func26, Tryd.ntmps26
  go_wp2_with fail
  refine N.out.mono ?_
  rintro e w1 ⟨rfl, q, hk1⟩
  have hci := hk1.cipher
  have hb1 : Below w.heap.size w w1 := hk1.below
  have HB1 := Lib.hid hb1
  clear hk1 hb1 N
  have mk := run_make16
  go_wp2_with fail
  clear mk
  have hc2 := hci.later ((Below.refl w1.heap.size w1).alloc (Nat.le_refl _) (.cells (bytesArr (fun _ => 0#8) 16) 5))
  refine (block_ok (sched b) (fun _ => 0#8) w.heap.size w1.heap.size 0 16 _ hc2 (fun i hi => by rw [Nat.zero_add, cell_of_row _ _ _ _ _ _ (heap_alloc_last w1 _)]; exact bytesArr_get _ _ _ hi) (by simp)).mono ?_
  rintro e w2 ⟨r, rfl, hf⟩
  have hc3 := hc2.later hf.below
  have HB2 := Lib.hid ((HB1.out.alloc HB1.out.size (.cells (bytesArr (fun _ => 0#8) 16) 5)).trans (hf.below.mono (by have := HB1.out.size; simp; omega)))
  have F := Lib.hid hf
  have av : (Instr.arrayAt 93 (.slice (some ⟨r, 0, none⟩) 16 16)).run Tryd.prog w2 = .ok (.pointer (some ⟨r, 0, none⟩)) w2 := run_arrayAt w2 93 5 16 _ 16 16 (by kernel_rfl) (by omega)
  have hc4 := Lib.hid hc3
  clear hci hc2 hf hc3
  have facts : ∀ i, i < 16 → w2.cell? ⟨r, 0 + i, none⟩ = some (.int .u8 (n8 ((W4.byte (turned sbox (sched b) (W4.of fun _ => 0#8))) i))) := fun i hi => by rw [Nat.zero_add]; exact F.out.cell i hi
  have ld := load16_any _ r 0 w2 facts
  clear facts
  generalize hG : (W4.byte (turned sbox (sched b) (W4.of fun _ => 0#8))) = G at *
  have HG := Lib.hid hG
  clear hG
  go_wp2_with (refine wpList_run (o := ⟨some 25, .load 93 _, _, _, _, _⟩) (v := .agg (b16 G)) (w' := w2) rfl (quiet_run ld) ?_)
  refine (wordsOf2_any G w2).mono ?_
  rintro e w3 ⟨rfl, hb3⟩
  have HB3 := Lib.hid (HB2.out.trans (hb3.mono HB2.out.size))
  have hc5 := Lib.hid (hc4.out.later hb3)
  unfold W2.val
  clear ld av hb3
  go_wp2_with fail
  go_ret2
  refine ⟨w3.heap.size, w.heap.size, rfl, HB3.out.size, HB3.out.alloc HB3.out.size _, ?_, ⟨?_, ?_, by simp⟩, hc5.out.later ((Below.refl w3.heap.size w3).alloc (Nat.le_refl _) _)⟩
  · rw [cell_of_row _ _ _ _ _ _ (heap_alloc_last w3 _)]; rfl
  · rw [cell_of_row _ _ _ _ _ _ (heap_alloc_last w3 _)]; unfold hOf; rw [HG.out]; rfl
  · rw [cell_of_row _ _ _ _ _ _ (heap_alloc_last w3 _)]; unfold hOf; rw [HG.out]; rfl
set_option maxHeartbeats 4000000 in
theorem turned_any' (p q : Nat) (ks : Nat → BitVec 32) (h : W2) (f xs : Nat → BitVec 8) (kb ko kc : Nat) (a : Option Addr) (n c : Nat) (w : World) (hB : BoxAt w p q ks h)
    (hk : ∀ i, i < 12 → w.cell? ⟨kb, ko + i, none⟩ = some (.int .u8 (n8 (f i)))) (hkb : kb < w.heap.size) (hx : BytesIn w a n xs) (hn : n ≤ 140737488351232) :
    Calls Tryd.prog 51 #[.pointer (some ⟨p, 0, none⟩), .slice (some ⟨kb, ko, none⟩) 12 kc, .slice a n c] w
      fun e w' => ∃ r, e = .returned (.tuple #[.slice (some ⟨r, 0, none⟩) n n, .int .i64 0]) ∧ Below w.heap.size w w' ∧ w.heap.size ≤ r ∧ w'.heap[r]? = some (.cells (bytesArr (hid ks f xs) n) 5 (0, 0)) := by
  have CT := Lib.hid (counter_any f 2#8 kb ko kc w hk hkb)
  rw [show n8 2#8 = 2 by unfold n8; rfl] at CT
  have HX := Lib.hid hx
  have HB := Lib.hid hB
  clear hk hkb hx hB
  go_enter Tryd.func51, Tryd.ntmps51
  go_wp2_with fail
  refine CT.out.mono ?_
  rintro e w1 ⟨rfl, hb1⟩
  clear CT
  go_wp2_with (first
    | (refine wpList_alloc_row (o := ⟨some 8, .alloc 93, _, _, _, _⟩) rfl 93 rfl zeros16 zero_16 ?_)
    | (refine wpList_store_new (o := ⟨none, .store 93 (.tmp 8) (.tmp 10), _, _, _, _⟩) rfl 93 _ _ rfl zeros16 (b16 _) _ rfl rfl rfl (size_16 _) rfl (b16_one _) ?_))
  have hb2 := hb1.alloc hb1.size (.cells (b16 (ctrN f 2#8)) 93)
  have row : (w1.alloc (.cells (b16 (ctrN f 2#8)) 93)).heap[w1.heap.size]? = some (.cells (b16 (ctrN f 2#8)) 93 (0, 0)) := heap_alloc_last _ _
  have hs1 := hb1.size
  generalize hW : w1.alloc _ = w2 at *
  generalize w1.heap.size = k at *
  clear hW hb1
  have bx := HB.out.later hb2.drew
  have c0 := bx.c0
  have Bx := Lib.hid bx
  have Row := Lib.hid row
  have HB2 := Lib.hid hb2
  have HX2 := Lib.hid (bytesIn_later HX.out hb2.drew)
  clear bx row hb2
  have sk := stream_ok ks (ctrN f 2#8) xs q k 0 16 0 a n c w2.drew Bx.out.cip (fun i hi => by rw [Nat.zero_add]; show w2.cell? _ = _; rw [cell_of_row _ _ _ _ _ _ Row.out]; exact b16_get _ _ hi) (lt_of_heap Row.out) (by omega) hn HX2.out.2
  rw [show ((0 : Nat) : Int) = 0 from rfl] at sk
  have SK := Lib.hid sk
  clear sk
  go_region_held3 (fun w' => w'.cell? ⟨p, 0, none⟩ = some (.pointer (some ⟨q, 0, none⟩))) (first | assumption | exact k2)
    (first | (go_at_call 73; with_reducible refine SK.out.mono ?_; rintro e w3 ⟨r, rfl, hb3, hr, row3⟩; have k2 := (Bx.out.later hb3).c0) | fail)
  go_wp2_with fail
  go_ret2
  have hA := HB2.out.trans ((((Below.refl w2.heap.size w2).drew).trans hb3).mono HB2.out.size)
  have e : bytesArr (fun i => xs i ^^^ strm ks (W4.of (ctrN f 2#8)) (0 + i)) n = bytesArr (hid ks f xs) n := bytesArr_congr _ _ n (fun i hi => by unfold hid; rw [Nat.zero_add])
  rw [e] at row3
  exact ⟨r, rfl, hA, Nat.le_trans HB2.out.size hr, row3⟩
end Go.Proofs.YtjbpjoondmcnlabDoor
