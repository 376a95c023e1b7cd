/-
  THE CALLS OF PACKAGE aes, FIFTH PART: a block turned by all rounds.
-/
import Derived.Test.YtoocglckhphepaaAesB
import Derived.Test.YtoocglckhphepaaAesC
import Derived.Test.YtoocglckhphepaaRegion
namespace Go.Proofs.Ytoocglckhphepaa
open Go Go.RowKit Go.BigFrame
set_option maxRecDepth 100000
def w4c (x : W4) : Array Value := #[.int .u32 (n32 x.a), .int .u32 (n32 x.b), .int .u32 (n32 x.c), .int .u32 (n32 x.d)]
/-- Block B holds x, and nothing below B has turned since w0; block B + 1 is there. -/
structure TurnSt (w0 : World) (B : Nat) (x : W4) (w : World) : Prop where
  below : Below B w0 w
  row : w.heap[B]? = some (.cells (w4c x) 70 (0, 0))
  out : w.heap[B + 1]? = some (.cells #[.int .u32 0, .int .u32 0, .int .u32 0, .int .u32 0] 70 (0, 0))
theorem TurnSt.size {w0 w : World} {B : Nat} {x : W4} (h : TurnSt w0 B x w) : B + 1 < w.heap.size := by
  have := h.out
  rcases Nat.lt_or_ge (B + 1) w.heap.size with h1 | h1
  · exact h1
  · rw [Array.getElem?_eq_none h1] at this; cases this
theorem TurnSt.cells {w0 w : World} {B : Nat} {x : W4} (h : TurnSt w0 B x w) :
    w.cell? ⟨B, 0, none⟩ = some (.int .u32 (n32 x.a)) ∧ w.cell? ⟨B, 1, none⟩ = some (.int .u32 (n32 x.b)) ∧ w.cell? ⟨B, 2, none⟩ = some (.int .u32 (n32 x.c)) ∧ w.cell? ⟨B, 3, none⟩ = some (.int .u32 (n32 x.d)) := by
  refine ⟨?_, ?_, ?_, ?_⟩ <;> rw [cell_of_row _ _ _ _ _ _ h.row] <;> rfl
theorem TurnSt.free {w0 w : World} {B : Nat} {x : W4} (h : TurnSt w0 B x w) (j : Nat) : w.frozen? ⟨B, j, none⟩ = false := frozen_of_row _ _ _ _ _ h.row
theorem TurnSt.outs {w0 w : World} {B : Nat} {x : W4} (h : TurnSt w0 B x w) (j : Nat) (hj : j < 4) : w.cell? ⟨B + 1, j, none⟩ = some (.int .u32 0) := by
  rw [cell_of_row _ _ _ _ _ _ h.out]
  match j, hj with
  | 0, _ => rfl
  | 1, _ => rfl
  | 2, _ => rfl
  | 3, _ => rfl
theorem TurnSt.outfree {w0 w : World} {B : Nat} {x : W4} (h : TurnSt w0 B x w) (j : Nat) : w.frozen? ⟨B + 1, j, none⟩ = false := frozen_of_row _ _ _ _ _ h.out
theorem TurnSt.later {w0 w w1 : World} {B : Nat} {x : W4} (h : TurnSt w0 B x w) (hb : Below w.heap.size w w1) : TurnSt w0 B x w1 :=
  ⟨h.below.trans (hb.mono (by have := h.size; omega)), by rw [hb.block _ (by have := h.size; omega)]; exact h.row, by rw [hb.block _ h.size]; exact h.out⟩
theorem TurnSt.drew {w0 w : World} {B : Nat} {x : W4} (h : TurnSt w0 B x w) : TurnSt w0 B x w.drew := ⟨h.below.drew, h.row, h.out⟩
theorem TurnSt.set {w0 w : World} {B : Nat} {x : W4} (h : TurnSt w0 B x w) (j : Nat) (v : Value) (y : W4) (hy : (w4c x).setIfInBounds j v = w4c y) : TurnSt w0 B y (w.setCell ⟨B, j, none⟩ v) :=
  ⟨h.below.setCell (Nat.le_refl _) _, by rw [heap_setCell_same _ _ _ _ _ _ h.row, hy], by rw [heap_setCell_other _ _ _ _ (by simp)]; exact h.out⟩
theorem TurnSt.sets {w0 w : World} {B : Nat} {x : W4} (h : TurnSt w0 B x w) (y : W4) :
    TurnSt w0 B y ((((w.setCell ⟨B, 0, none⟩ (.int .u32 (n32 y.a))).setCell ⟨B, 1, none⟩ (.int .u32 (n32 y.b))).setCell ⟨B, 2, none⟩ (.int .u32 (n32 y.c))).setCell ⟨B, 3, none⟩ (.int .u32 (n32 y.d))) :=
  ((((h.set 0 (.int .u32 (n32 y.a)) ⟨y.a, x.b, x.c, x.d⟩ rfl).set 1 (.int .u32 (n32 y.b)) ⟨y.a, y.b, x.c, x.d⟩ rfl).set 2 (.int .u32 (n32 y.c)) ⟨y.a, y.b, y.c, x.d⟩ rfl).set 3 (.int .u32 (n32 y.d)) y rfl)
def W4.mix (x : W4) : W4 := ⟨Go.Proofs.Ytoocglckhphepaa.mix x.a, Go.Proofs.Ytoocglckhphepaa.mix x.b, Go.Proofs.Ytoocglckhphepaa.mix x.c, Go.Proofs.Ytoocglckhphepaa.mix x.d⟩
def kw (ks : Nat → BitVec 32) (r : Nat) : W4 := ⟨ks (r * 4), ks (r * 4 + 1), ks (r * 4 + 2), ks (r * 4 + 3)⟩
/-- The state ahead of round r + 1. -/
def roundsTo (T : Nat → BitVec 8) (ks : Nat → BitVec 32) (x : W4) : Nat → W4
  | 0 => x.xor (kw ks 0)
  | r + 1 => ((roundsTo T ks x r).shift T).mix.xor (kw ks (r + 1))
def turned (T : Nat → BitVec 8) (ks : Nat → BitVec 32) (x : W4) : W4 := ((roundsTo T ks x 9).shift T).xor (kw ks 10)
theorem index_4 (cs : Array Value) (i : Int) (w : World) (h0 : 0 ≤ i) (h1 : i < 4) (hc : cs.size = 4) :
    (Instr.index 70 (.agg cs) (.int .i64 i)).run Try.prog w = .ok (cs[i.toNat]?.getD undef) w :=
  run_index_arr 70 68 4 cs .i64 .u32 i w (by kernel_rfl) (by kernel_rfl) (by kernel_rfl) h0 h1 hc
attribute [local go_sem] index_4
set_option maxHeartbeats 4000000 in
set_option maxRecDepth 100000 in
theorem turn_any (T : Nat → BitVec 8) (ks : Nat → BitVec 32) (p q : Nat) (a0 a1 a2 a3 : BitVec 32) (w : World)
    (hT : ∀ i, i < 256 → w.cell? ⟨q, i, none⟩ = some (.int .u8 (n8 (T i)))) (hK : ∀ i, i < 44 → w.cell? ⟨p, i, none⟩ = some (.int .u32 (n32 (ks i)))) (hq : q < w.heap.size) (hp : p < w.heap.size) :
    Calls Try.prog 36 #[.pointer (some ⟨p, 0, none⟩), .pointer (some ⟨q, 0, none⟩), .agg #[.int .u32 (n32 a0), .int .u32 (n32 a1), .int .u32 (n32 a2), .int .u32 (n32 a3)]] w
      fun e w' => e = .returned (turned T ks ⟨a0, a1, a2, a3⟩).val ∧ Below w.heap.size w w' := by
  have q1 : q < w.heap.size + 1 := by omega
  have q3 : q ≤ w.heap.size := by omega
  have p1 : p < w.heap.size + 1 := by omega
  have p3 : p ≤ w.heap.size := by omega
  go_enter Try.func36, Try.ntmps36
  go_wp2
  have st0 : TurnSt w w.heap.size ⟨a0, a1, a2, a3⟩ ((w.alloc (.cells #[.int .u32 (n32 a0), .int .u32 (n32 a1), .int .u32 (n32 a2), .int .u32 (n32 a3)] 70)).alloc (.cells #[.int .u32 0, .int .u32 0, .int .u32 0, .int .u32 0] 70)) :=
    ⟨((Below.refl _ _).alloc (Nat.le_refl _) _).alloc (by simp) _, heap_alloc2_old _ _ _, heap_alloc2_new _ _ _⟩
  generalize hW0 : (w.alloc (.cells #[.int .u32 (n32 a0), .int .u32 (n32 a1), .int .u32 (n32 a2), .int .u32 (n32 a3)] 70)).alloc (.cells #[.int .u32 0, .int .u32 0, .int .u32 0, .int .u32 0] 70) = wa at *
  clear hW0
  have T1 := TurnSt.cells st0
  obtain ⟨c0, c1, c2, c3⟩ := T1
  have sz := st0.size
  have pa : p < wa.heap.size := by omega
  have qa : q < wa.heap.size := by omega
  have hKa : ∀ i, i < 44 → wa.cell? ⟨p, i, none⟩ = some (.int .u32 (n32 (ks i))) := fun i hi => by rw [st0.below.cell (p := ⟨p, i, none⟩) hp]; exact hK i hi
  refine region_head 6 mixedOrders (by kernel_rfl) ?_
  simp only [List.take_succ_cons, List.take_zero, List.drop_succ_cons, List.drop_zero]
  repeat (go_big_quiet_step (fail))
  refine wpQuiet_nil ?_
  clear hKa c0 c1 c2 c3
  go_wp2_with fail
  refine (together_any _ _ _ _ _ _ _ _ _).mono ?_
  rintro e w1 ⟨rfl, hb1⟩
  have st1 := st0.drew.later hb1
  clear hb1 sz pa qa st0
  obtain ⟨c0, c1, c2, c3⟩ := st1.cells
  have f0 := st1.free 0
  have f1 := st1.free 1
  have f2 := st1.free 2
  have f3 := st1.free 3
  generalize hy : W4.xor _ _ = y
  unfold W4.val
  go_wp2_with fail
  have st2 := st1.sets y
  clear c0 c1 c2 c3 f0 f1 f2 f3
  generalize hW0 : (((w1.setCell _ _).setCell _ _).setCell _ _).setCell _ _ = wb at *
  clear hW0 st1
  replace hy : y = roundsTo T ks ⟨a0, a1, a2, a3⟩ 0 := hy.symm
  have Hy := Lib.hid hy
  clear hy
  go_loopw [7] (fun i wr => ∃ r : Nat, r ≤ 9 ∧ i = .int .i64 ((r : Int) + 1) ∧ TurnSt w w.heap.size (roundsTo T ks ⟨a0, a1, a2, a3⟩ r) wr) (fun i _ => 10 - (intOf i).toNat)
  case atStart => exact ⟨0, by omega, rfl, by rw [← Hy.out]; exact st2⟩
  case round =>
    obtain ⟨r, hr, rfl, st⟩ := hrel
    clear st2 Hy
    generalize hx : roundsTo T ks ⟨a0, a1, a2, a3⟩ r = x at st
    have Hx := Lib.hid hx
    clear hx
    obtain ⟨c0, c1, c2, c3⟩ := st.cells
    have f0 := st.free 0
    have f1 := st.free 1
    have f2 := st.free 2
    have f3 := st.free 3
    by_cases hr9 : r < 9
    · go_wp2_with fail
      have hTw : ∀ i, i < 256 → wr.cell? ⟨q, i, none⟩ = some (.int .u8 (n8 (T i))) := fun i hi => by rw [st.below.cell (p := ⟨q, i, none⟩) hq]; exact hT i hi
      refine (shifted_any T q _ _ _ _ wr hTw (by have := st.size; omega)).mono ?_
      rintro e w1 ⟨rfl, hb1⟩
      have st1 := st.later hb1
      clear hb1 st hTw c0 c1 c2 c3 f0 f1 f2 f3
      obtain ⟨c0, c1, c2, c3⟩ := st1.cells
      have f0 := st1.free 0
      have f1 := st1.free 1
      have f2 := st1.free 2
      have f3 := st1.free 3
      generalize hy : W4.shift _ _ = y
      have Hy := Lib.hid hy
      clear hy
      unfold W4.val
      go_wp2_with fail
      have st2 := st1.sets y
      clear c0 c1 c2 c3 f0 f1 f2 f3
      generalize hW0 : (((w1.setCell _ _).setCell _ _).setCell _ _).setCell _ _ = wb at *
      clear hW0 st1
      obtain ⟨c0, c1, c2, c3⟩ := st2.cells
      have f0 := st2.free 0
      have f1 := st2.free 1
      have f2 := st2.free 2
      have f3 := st2.free 3
      refine wp_loop_rounds 5 ?_
      iterate 4
        (rw [rounds_succ]
         go_wp2_with (go_at_call 52; refine (mixed_any _ _).mono ?_; rintro e w' ⟨rfl, rfl⟩))
      rw [rounds_succ]
      go_wp2_with fail
      have st3 := st2.sets y.mix
      clear c0 c1 c2 c3 f0 f1 f2 f3
      simp only [W4.mix] at st3
      generalize hW0 : (((World.setCell _ _ _).setCell _ _).setCell _ _).setCell _ _ = wc at *
      clear hW0 st2
      have T1 := TurnSt.cells st3
      obtain ⟨c0, c1, c2, c3⟩ := T1
      have sz := st3.size
      have pa : p < wc.heap.size := by omega
      have hKa : ∀ i, i < 44 → wc.cell? ⟨p, i, none⟩ = some (.int .u32 (n32 (ks i))) := fun i hi => by rw [st3.below.cell (p := ⟨p, i, none⟩) hp]; exact hK i hi
      have k0 := hKa ((r + 1) * 4) (by omega)
      have k1 := hKa ((r + 1) * 4 + 1) (by omega)
      have k2 := hKa ((r + 1) * 4 + 2) (by omega)
      have k3 := hKa ((r + 1) * 4 + 3) (by omega)
      clear hKa
      have r0 : (0 : Int) ≤ (r : Int) + 1 := by omega
      have r1 : (r : Int) + 1 < 11 := by omega
      refine region_head 7 mixedOrders (by kernel_rfl) ?_
      simp only [List.take_succ_cons, List.take_zero, List.drop_succ_cons, List.drop_zero]
      repeat (go_big_quiet_step (fail))
      refine wpQuiet_nil ?_
      clear k0 k1 k2 k3 c0 c1 c2 c3
      go_wp2_with fail
      refine (together_any _ _ _ _ _ _ _ _ _).mono ?_
      rintro e w1 ⟨rfl, hb1⟩
      have st4 := st3.drew.later hb1
      clear hb1 sz pa st3
      obtain ⟨c0, c1, c2, c3⟩ := st4.cells
      have f0 := st4.free 0
      have f1 := st4.free 1
      have f2 := st4.free 2
      have f3 := st4.free 3
      generalize hz : W4.xor _ _ = z
      unfold W4.val
      go_wp2_with fail
      have st5 := st4.sets z
      go_roundw
      case rel => exact ⟨r + 1, by omega, by go_num, by
        have e : roundsTo T ks ⟨a0, a1, a2, a3⟩ (r + 1) = z := by rw [← hz]; simp only [roundsTo]; rw [Hx.out, Hy.out]; rfl
        rw [e]; exact st5⟩
      case measure => simp [intOf]; omega
    · obtain rfl : r = 9 := by omega
      go_wp2_with fail
      have facts : ∀ w', Below wr.heap.size wr w' → (w'.cell? ⟨w.heap.size, 0, none⟩ = some (.int .u32 (n32 x.a)) ∧ w'.cell? ⟨w.heap.size, 1, none⟩ = some (.int .u32 (n32 x.b)) ∧ w'.cell? ⟨w.heap.size, 2, none⟩ = some (.int .u32 (n32 x.c)) ∧ w'.cell? ⟨w.heap.size, 3, none⟩ = some (.int .u32 (n32 x.d)))
          ∧ (w'.cell? ⟨p, 40, none⟩ = some (.int .u32 (n32 (ks 40))) ∧ w'.cell? ⟨p, 41, none⟩ = some (.int .u32 (n32 (ks 41))) ∧ w'.cell? ⟨p, 42, none⟩ = some (.int .u32 (n32 (ks 42))) ∧ w'.cell? ⟨p, 43, none⟩ = some (.int .u32 (n32 (ks 43)))) := fun w' h => by
        have h1 := st.later h
        refine ⟨h1.cells, ?_, ?_, ?_, ?_⟩ <;> rw [h1.below.cell (p := ⟨p, _, none⟩) hp] <;> exact hK _ (by omega)
      clear c0 c1 c2 c3 f0 f1 f2 f3
      have Facts := Lib.hid facts
      clear facts
      refine region_class 9 (fun w' => Below wr.heap.size wr w') mixedOrders (by kernel_rfl) (Below.refl _ _).drew ?_
      simp only [List.take_succ_cons, List.take_zero, List.drop_succ_cons, List.drop_zero]
      iterate 9
        (refine wpQuiet_want (by rfl) (fun K hK => ?_)
         apply Exists.intro
         refine ⟨fun w' hw' => ?_, ?_⟩
         · obtain ⟨⟨c0, c1, c2, c3⟩, k0, k1, k2, k3⟩ := Facts.out w' hw'
           have hw2 := Lib.hid hw'
           clear hw'
           go_simp
           first
             | rfl
             | (go_at_call 51
                refine (shifted_any T q _ _ _ _ w' (fun i hi => by rw [(st.later hw2.out).below.cell (p := ⟨q, i, none⟩) hq]; exact hT i hi) (by have := (st.later hw2.out).size; omega)).mono ?_
                rintro e w1 ⟨rfl, hb⟩
                exact ⟨rfl, hw2.out.trans (hb.mono hw2.out.size)⟩)
             | (go_at_call 50
                refine (together_any _ _ _ _ _ _ _ _ w').mono ?_
                rintro e w1 ⟨rfl, hb⟩
                exact ⟨rfl, hw2.out.trans (hb.mono hw2.out.size)⟩)
         (try simp only [W4.val])
         go_simp
         refine hK _ ?_
         clear hK K)
      refine wpQuiet_nil ?_
      intro wz hz
      have st1 := st.later hz
      have o0 := st1.outs 0 (by omega)
      have o1 := st1.outs 1 (by omega)
      have o2 := st1.outs 2 (by omega)
      have o3 := st1.outs 3 (by omega)
      have f0 := st1.outfree 0
      have f1 := st1.outfree 1
      have f2 := st1.outfree 2
      have f3 := st1.outfree 3
      have hb := st1.below
      clear hz st1 st Facts
      generalize hz : W4.xor _ _ = z
      have Hz := Lib.hid hz
      clear hz
      go_wp2_with fail
      refine bodyPost_ret (v := z.val) (by simp [results, Try.results36, go_sem, W4.val, o0, o1, o2, o3]) rfl ⟨?_, ?_⟩
      · have e : turned T ks ⟨a0, a1, a2, a3⟩ = z := by rw [← Hz.out]; unfold turned; rw [Hx.out]; rfl
        rw [e]
      · exact (((hb.setCell (by simp) _).setCell (by simp) _).setCell (by simp) _).setCell (by simp) _
end Go.Proofs.Ytoocglckhphepaa
