/-
  TEXTS PUT TOGETHER: AesC, AesD, AesE, AesF, AesG.
-/
import Derived.Test.YtjbpjoondmcnlabDoorMg17
import Derived.Test.YtjbpjoondmcnlabDoorAesB
import Derived.Test.YtjbpjoondmcnlabDoorMg01
import Derived.Test.YtjbpjoondmcnlabDoorMg06
import Derived.Test.YtjbpjoondmcnlabDoorMg04
set_option maxRecDepth 100000
/-
  THE CALLS OF PACKAGE aes, THIRD PART: the words of the round behind.
-/
namespace Go.Proofs.YtjbpjoondmcnlabDoor
open Go Go.RowKit Go.BigFrame
/-- The words of the round behind that of k. -/
def W4.next (T : Nat → BitVec 8) (k : W4) (r : BitVec 8) : W4 :=
  let t := subw T (rotl k.d 8) (rotl k.d 8) (rotl k.d 8) (rotl k.d 8) ^^^ r.setWidth 32 <<< 24
  ⟨t ^^^ k.a, t ^^^ k.a ^^^ k.b, t ^^^ k.a ^^^ k.b ^^^ k.c, t ^^^ k.a ^^^ k.b ^^^ k.c ^^^ k.d⟩
set_option maxHeartbeats 4000000 in
theorem nextKey_any (T : Nat → BitVec 8) (q : Nat) (a0 a1 a2 a3 : BitVec 32) (r : BitVec 8) (w : World) (hT : ∀ i, i < 256 → w.cell? ⟨q, i, none⟩ = some (.int .u8 (n8 (T i)))) (hq : q < w.heap.size) :
    Calls Tryd.prog 67 #[.pointer (some ⟨q, 0, none⟩), .agg #[.int .u32 (n32 a0), .int .u32 (n32 a1), .int .u32 (n32 a2), .int .u32 (n32 a3)], .int .u8 (n8 r)] w
      fun e w' => e = .returned (W4.next T ⟨a0, a1, a2, a3⟩ r).val ∧ Below w.heap.size w w' := by
  have q1 : q < w.heap.size + 1 := by omega
  have q2 : q < w.heap.size + 1 + 1 := by omega
  have q3 : q ≤ w.heap.size := by omega
  have q4 : q ≤ w.heap.size + 1 := by omega
  have r8 := fun w => rot_any a3 8 8 w (by decide) (by decide)
  have R8 := Lib.hid r8
  clear r8
  go_enter Tryd.func67, Tryd.ntmps67
  go_wp2_with fail
  refine (R8.out _).mono ?_; rintro e w' ⟨rfl, rfl⟩
  go_wp2
  refine region_quiet mixedOrders (by kernel_rfl) ?_
  repeat (go_big_quiet_step (fail))
  refine wpQuiet_nil ?_
  go_wp2
  refine wp_loop_rounds 5 ?_
  iterate 5
    (rw [rounds_succ]
     go_wp2)
  refine bodyPost_ret (v := (W4.next T ⟨a0, a1, a2, a3⟩ r).val) (by simp [results, Tryd.results67, go_sem, W4.val, W4.next, subw]) rfl ⟨rfl, ?_⟩
  repeat (first | exact Below.refl _ _ | apply Below.drew | refine Below.alloc ?_ (by simp; try omega) _)
end Go.Proofs.YtjbpjoondmcnlabDoor
/-
  THE CALLS OF PACKAGE aes, FOURTH PART: what stands for each byte; is there a key; a block turned.
-/
namespace Go.Proofs.YtjbpjoondmcnlabDoor
open Go Go.RowKit Go.BigFrame
def sboxL : List Nat := [99, 124, 119, 123, 242, 107, 111, 197, 48, 1, 103, 43, 254, 215, 171, 118, 202, 130, 201, 125, 250, 89, 71, 240, 173, 212, 162, 175, 156, 164, 114, 192, 183, 253, 147, 38, 54, 63, 247, 204, 52, 165, 229, 241, 113, 216, 49, 21, 4, 199, 35, 195, 24, 150, 5, 154, 7, 18, 128, 226, 235, 39, 178, 117, 9, 131, 44, 26, 27, 110, 90, 160, 82, 59, 214, 179, 41, 227, 47, 132, 83, 209, 0, 237, 32, 252, 177, 91, 106, 203, 190, 57, 74, 76, 88, 207, 208, 239, 170, 251, 67, 77, 51, 133, 69, 249, 2, 127, 80, 60, 159, 168, 81, 163, 64, 143, 146, 157, 56, 245, 188, 182, 218, 33, 16, 255, 243, 210, 205, 12, 19, 236, 95, 151, 68, 23, 196, 167, 126, 61, 100, 93, 25, 115, 96, 129, 79, 220, 34, 42, 144, 136, 70, 238, 184, 20, 222, 94, 11, 219, 224, 50, 58, 10, 73, 6, 36, 92, 194, 211, 172, 98, 145, 149, 228, 121, 231, 200, 55, 109, 141, 213, 78, 169, 108, 86, 244, 234, 101, 122, 174, 8, 186, 120, 37, 46, 28, 166, 180, 198, 232, 221, 116, 31, 75, 189, 139, 138, 112, 62, 181, 102, 72, 3, 246, 14, 97, 53, 87, 185, 134, 193, 29, 158, 225, 248, 152, 17, 105, 217, 142, 148, 155, 30, 135, 233, 206, 85, 40, 223, 140, 161, 137, 13, 191, 230, 66, 104, 65, 153, 45, 15, 176, 84, 187, 22]
/-- What stands for byte i. -/
def sbox (i : Nat) : BitVec 8 := BitVec.ofNat 8 (sboxL.getD i 0)
def sboxCells : Array Value := ((List.range 256).map fun i => Value.int .u8 (n8 (sbox i))).toArray
theorem sboxCells_size : sboxCells.size = 256 := by unfold sboxCells; simp
theorem sboxCells_get (i : Nat) (h : i < 256) : sboxCells[i]? = some (.int .u8 (n8 (sbox i))) := by
  unfold sboxCells
  simp [h]
theorem sboxCells_one : sboxCells.all (·.oneCell') = true := by
  rw [Array.all_eq_true_iff_forall_mem]
  intro v hv
  unfold sboxCells at hv
  simp only [List.mem_toArray, List.mem_map] at hv
  obtain ⟨i, _, rfl⟩ := hv
  rfl
def zeros256 : Array Value := Array.replicate 256 (.int .u8 0)
theorem zero_256 : (Tryd.prog.info? 106).map (·.zero) = some (some (.agg zeros256)) := by kernel_rfl
theorem size_256 : (Tryd.prog.info? 106).map (·.size) = some sboxCells.size := by kernel_rfl
theorem under_256 : Tryd.prog.underlying 106 = some (.array 256 5) := by kernel_rfl
set_option maxHeartbeats 1000000 in
set_option maxRecDepth 100000 in
theorem substitutes_any (w : World) :
    Calls Tryd.prog 65 #[] w fun e w' => e = .returned (.agg sboxCells) ∧ Below w.heap.size w w' := by
  go_enter Tryd.func65, Tryd.ntmps65
  go_step
  go_step
  go_step
  refine wpList_alloc_row (o := ⟨some 0, .alloc 106, _, _, _, _⟩) rfl 106 rfl zeros256 zero_256 ?_
  go_step
  go_step
  go_step
  go_step
  go_step
  show wpList _ _ _ _ ⟨#[.pointer (some ⟨w.heap.size, 0, none⟩), undef], []⟩ _
  refine wpList_run (v := .agg sboxCells) (w' := w.alloc (.cells zeros256 106)) rfl (by kernel_rfl) ?_
  show wpList _ _ _ _ ⟨#[.pointer (some ⟨w.heap.size, 0, none⟩), .agg sboxCells], []⟩ _
  refine wpList_store_new rfl 106 _ _ rfl zeros256 sboxCells _ rfl rfl rfl size_256 (by kernel_rfl) sboxCells_one ?_
  go_wp2
  refine bodyPost_ret (v := .agg sboxCells) (results_cell_row rfl _ _ w.heap.size 106 sboxCells (0, 0) _ rfl (heap_alloc_last _ _) under_256 rfl size_256) rfl ⟨rfl, ?_⟩
  exact (Below.refl _ _).alloc (Nat.le_refl _) _

end Go.Proofs.YtjbpjoondmcnlabDoor
/-
  THE CALLS OF PACKAGE aes, FIFTH PART: a block turned by all rounds.
-/
namespace Go.Proofs.YtjbpjoondmcnlabDoor
open Go Go.RowKit Go.BigFrame
set_option maxRecDepth 100000
def w4c (x : W4) : Array Value := #[.int .u32 (n32 x.a), .int .u32 (n32 x.b), .int .u32 (n32 x.c), .int .u32 (n32 x.d)]
/-- Block B holds x, and nothing below B has turned since w0; block B + 1 is there. -/
structure TurnSt (w0 : World) (B : Nat) (x : W4) (w : World) : Prop where
  below : Below B w0 w
  row : w.heap[B]? = some (.cells (w4c x) 116 (0, 0))
  out : w.heap[B + 1]? = some (.cells #[.int .u32 0, .int .u32 0, .int .u32 0, .int .u32 0] 116 (0, 0))
theorem TurnSt.size {w0 w : World} {B : Nat} {x : W4} (h : TurnSt w0 B x w) : B + 1 < w.heap.size := by
  have := h.out
  rcases Nat.lt_or_ge (B + 1) w.heap.size with h1 | h1
  · exact h1
  · rw [Array.getElem?_eq_none h1] at this; cases this
theorem TurnSt.cells {w0 w : World} {B : Nat} {x : W4} (h : TurnSt w0 B x w) :
    w.cell? ⟨B, 0, none⟩ = some (.int .u32 (n32 x.a)) ∧ w.cell? ⟨B, 1, none⟩ = some (.int .u32 (n32 x.b)) ∧ w.cell? ⟨B, 2, none⟩ = some (.int .u32 (n32 x.c)) ∧ w.cell? ⟨B, 3, none⟩ = some (.int .u32 (n32 x.d)) := by
  refine ⟨?_, ?_, ?_, ?_⟩ <;> rw [cell_of_row _ _ _ _ _ _ h.row] <;> rfl
theorem TurnSt.free {w0 w : World} {B : Nat} {x : W4} (h : TurnSt w0 B x w) (j : Nat) : w.frozen? ⟨B, j, none⟩ = false := frozen_of_row _ _ _ _ _ h.row
theorem TurnSt.outs {w0 w : World} {B : Nat} {x : W4} (h : TurnSt w0 B x w) (j : Nat) (hj : j < 4) : w.cell? ⟨B + 1, j, none⟩ = some (.int .u32 0) := by
  rw [cell_of_row _ _ _ _ _ _ h.out]
  match j, hj with
  | 0, _ => rfl
  | 1, _ => rfl
  | 2, _ => rfl
  | 3, _ => rfl
theorem TurnSt.outfree {w0 w : World} {B : Nat} {x : W4} (h : TurnSt w0 B x w) (j : Nat) : w.frozen? ⟨B + 1, j, none⟩ = false := frozen_of_row _ _ _ _ _ h.out
theorem TurnSt.later {w0 w w1 : World} {B : Nat} {x : W4} (h : TurnSt w0 B x w) (hb : Below w.heap.size w w1) : TurnSt w0 B x w1 :=
  ⟨h.below.trans (hb.mono (by have := h.size; omega)), by rw [hb.block _ (by have := h.size; omega)]; exact h.row, by rw [hb.block _ h.size]; exact h.out⟩
theorem TurnSt.drew {w0 w : World} {B : Nat} {x : W4} (h : TurnSt w0 B x w) : TurnSt w0 B x w.drew := ⟨h.below.drew, h.row, h.out⟩
theorem TurnSt.set {w0 w : World} {B : Nat} {x : W4} (h : TurnSt w0 B x w) (j : Nat) (v : Value) (y : W4) (hy : (w4c x).setIfInBounds j v = w4c y) : TurnSt w0 B y (w.setCell ⟨B, j, none⟩ v) :=
  ⟨h.below.setCell (Nat.le_refl _) _, by rw [heap_setCell_same _ _ _ _ _ _ h.row, hy], by rw [heap_setCell_other _ _ _ _ (by simp)]; exact h.out⟩
theorem TurnSt.sets {w0 w : World} {B : Nat} {x : W4} (h : TurnSt w0 B x w) (y : W4) :
    TurnSt w0 B y ((((w.setCell ⟨B, 0, none⟩ (.int .u32 (n32 y.a))).setCell ⟨B, 1, none⟩ (.int .u32 (n32 y.b))).setCell ⟨B, 2, none⟩ (.int .u32 (n32 y.c))).setCell ⟨B, 3, none⟩ (.int .u32 (n32 y.d))) :=
  ((((h.set 0 (.int .u32 (n32 y.a)) ⟨y.a, x.b, x.c, x.d⟩ rfl).set 1 (.int .u32 (n32 y.b)) ⟨y.a, y.b, x.c, x.d⟩ rfl).set 2 (.int .u32 (n32 y.c)) ⟨y.a, y.b, y.c, x.d⟩ rfl).set 3 (.int .u32 (n32 y.d)) y rfl)
def W4.mix (x : W4) : W4 := ⟨Go.Proofs.YtjbpjoondmcnlabDoor.mix x.a, Go.Proofs.YtjbpjoondmcnlabDoor.mix x.b, Go.Proofs.YtjbpjoondmcnlabDoor.mix x.c, Go.Proofs.YtjbpjoondmcnlabDoor.mix x.d⟩
def kw (ks : Nat → BitVec 32) (r : Nat) : W4 := ⟨ks (r * 4), ks (r * 4 + 1), ks (r * 4 + 2), ks (r * 4 + 3)⟩
/-- The state ahead of round r + 1. -/
def roundsTo (T : Nat → BitVec 8) (ks : Nat → BitVec 32) (x : W4) : Nat → W4
  | 0 => x.xor (kw ks 0)
  | r + 1 => ((roundsTo T ks x r).shift T).mix.xor (kw ks (r + 1))
def turned (T : Nat → BitVec 8) (ks : Nat → BitVec 32) (x : W4) : W4 := ((roundsTo T ks x 9).shift T).xor (kw ks 10)
theorem index_4 (cs : Array Value) (i : Int) (w : World) (h0 : 0 ≤ i) (h1 : i < 4) (hc : cs.size = 4) :
    (Instr.index 116 (.agg cs) (.int .i64 i)).run Tryd.prog w = .ok (cs[i.toNat]?.getD undef) w :=
  run_index_arr 116 114 4 cs .i64 .u32 i w (by kernel_rfl) (by kernel_rfl) (by kernel_rfl) h0 h1 hc
attribute [local go_sem] index_4
set_option maxHeartbeats 4000000 in
set_option maxRecDepth 100000 in
theorem turnA_any (T : Nat → BitVec 8) (ks : Nat → BitVec 32) (p q : Nat) (a0 a1 a2 a3 : BitVec 32) (w : World)
    (hT : ∀ i, i < 256 → w.cell? ⟨q, i, none⟩ = some (.int .u8 (n8 (T i)))) (hK : ∀ i, i < 44 → w.cell? ⟨p, i, none⟩ = some (.int .u32 (n32 (ks i)))) (hq : q < w.heap.size) (hp : p < w.heap.size) :
    Calls Tryd.prog 71 #[.pointer (some ⟨p, 0, none⟩), .pointer (some ⟨q, 0, none⟩), .agg #[.int .u32 (n32 a0), .int .u32 (n32 a1), .int .u32 (n32 a2), .int .u32 (n32 a3)]] w
      fun e w' => e = .returned (turned T ks ⟨a0, a1, a2, a3⟩).val ∧ Below w.heap.size w w' := by
  have q1 : q < w.heap.size + 1 := by omega
  have q3 : q ≤ w.heap.size := by omega
  have p1 : p < w.heap.size + 1 := by omega
  have p3 : p ≤ w.heap.size := by omega
  go_enter Tryd.func71, Tryd.ntmps71
  go_wp2
  have st0 : TurnSt w w.heap.size ⟨a0, a1, a2, a3⟩ ((w.alloc (.cells #[.int .u32 (n32 a0), .int .u32 (n32 a1), .int .u32 (n32 a2), .int .u32 (n32 a3)] 116)).alloc (.cells #[.int .u32 0, .int .u32 0, .int .u32 0, .int .u32 0] 116)) :=
    ⟨((Below.refl _ _).alloc (Nat.le_refl _) _).alloc (by simp) _, heap_alloc2_old _ _ _, heap_alloc2_new _ _ _⟩
  generalize hW0 : (w.alloc (.cells #[.int .u32 (n32 a0), .int .u32 (n32 a1), .int .u32 (n32 a2), .int .u32 (n32 a3)] 116)).alloc (.cells #[.int .u32 0, .int .u32 0, .int .u32 0, .int .u32 0] 116) = wa at *
  clear hW0
  have T1 := TurnSt.cells st0
  obtain ⟨c0, c1, c2, c3⟩ := T1
  have sz := st0.size
  have pa : p < wa.heap.size := by omega
  have qa : q < wa.heap.size := by omega
  have hKa : ∀ i, i < 44 → wa.cell? ⟨p, i, none⟩ = some (.int .u32 (n32 (ks i))) := fun i hi => by rw [st0.below.cell (p := ⟨p, i, none⟩) hp]; exact hK i hi
  refine region_head 6 mixedOrders (by kernel_rfl) ?_
  simp only [List.take_succ_cons, List.take_zero, List.drop_succ_cons, List.drop_zero]
  repeat (go_big_quiet_step (fail))
  refine wpQuiet_nil ?_
  clear hKa c0 c1 c2 c3
  go_wp2_with fail
  refine (together_any _ _ _ _ _ _ _ _ _).mono ?_
  rintro e w1 ⟨rfl, hb1⟩
  have st1 := st0.drew.later hb1
  clear hb1 sz pa qa st0
  obtain ⟨c0, c1, c2, c3⟩ := st1.cells
  have f0 := st1.free 0
  have f1 := st1.free 1
  have f2 := st1.free 2
  have f3 := st1.free 3
  generalize hy : W4.xor _ _ = y
  unfold W4.val
  go_wp2_with fail
  have st2 := st1.sets y
  clear c0 c1 c2 c3 f0 f1 f2 f3
  generalize hW0 : (((w1.setCell _ _).setCell _ _).setCell _ _).setCell _ _ = wb at *
  clear hW0 st1
  replace hy : y = roundsTo T ks ⟨a0, a1, a2, a3⟩ 0 := hy.symm
  have Hy := Lib.hid hy
  clear hy
  go_loopw [7] (fun i wr => ∃ r : Nat, r ≤ 9 ∧ i = .int .i64 ((r : Int) + 1) ∧ TurnSt w w.heap.size (roundsTo T ks ⟨a0, a1, a2, a3⟩ r) wr) (fun i _ => 10 - (intOf i).toNat)
  case atStart => exact ⟨0, by omega, rfl, by rw [← Hy.out]; exact st2⟩
  case round =>
    obtain ⟨r, hr, rfl, st⟩ := hrel
    clear st2 Hy
    generalize hx : roundsTo T ks ⟨a0, a1, a2, a3⟩ r = x at st
    have Hx := Lib.hid hx
    clear hx
    obtain ⟨c0, c1, c2, c3⟩ := st.cells
    have f0 := st.free 0
    have f1 := st.free 1
    have f2 := st.free 2
    have f3 := st.free 3
    by_cases hr9 : r < 9
    · go_wp2_with fail
      have hTw : ∀ i, i < 256 → wr.cell? ⟨q, i, none⟩ = some (.int .u8 (n8 (T i))) := fun i hi => by rw [st.below.cell (p := ⟨q, i, none⟩) hq]; exact hT i hi
      refine (shifted_any T q _ _ _ _ wr hTw (by have := st.size; omega)).mono ?_
      rintro e w1 ⟨rfl, hb1⟩
      have st1 := st.later hb1
      clear hb1 st hTw c0 c1 c2 c3 f0 f1 f2 f3
      obtain ⟨c0, c1, c2, c3⟩ := st1.cells
      have f0 := st1.free 0
      have f1 := st1.free 1
      have f2 := st1.free 2
      have f3 := st1.free 3
      generalize hy : W4.shift _ _ = y
      have Hy := Lib.hid hy
      clear hy
      unfold W4.val
      go_wp2_with fail
      have st2 := st1.sets y
      clear c0 c1 c2 c3 f0 f1 f2 f3
      generalize hW0 : (((w1.setCell _ _).setCell _ _).setCell _ _).setCell _ _ = wb at *
      clear hW0 st1
      obtain ⟨c0, c1, c2, c3⟩ := st2.cells
      have f0 := st2.free 0
      have f1 := st2.free 1
      have f2 := st2.free 2
      have f3 := st2.free 3
      refine wp_loop_rounds 5 ?_
      iterate 4
        (rw [rounds_succ]
         go_wp2_with (go_at_call 89; refine (mixed_any _ _).mono ?_; rintro e w' ⟨rfl, rfl⟩))
      rw [rounds_succ]
      go_wp2_with fail
      have st3 := st2.sets y.mix
      clear c0 c1 c2 c3 f0 f1 f2 f3
      simp only [W4.mix] at st3
      generalize hW0 : (((World.setCell _ _ _).setCell _ _).setCell _ _).setCell _ _ = wc at *
      clear hW0 st2
      have T1 := TurnSt.cells st3
      obtain ⟨c0, c1, c2, c3⟩ := T1
      have sz := st3.size
      have pa : p < wc.heap.size := by omega
      have hKa : ∀ i, i < 44 → wc.cell? ⟨p, i, none⟩ = some (.int .u32 (n32 (ks i))) := fun i hi => by rw [st3.below.cell (p := ⟨p, i, none⟩) hp]; exact hK i hi
      have k0 := hKa ((r + 1) * 4) (by omega)
      have k1 := hKa ((r + 1) * 4 + 1) (by omega)
      have k2 := hKa ((r + 1) * 4 + 2) (by omega)
      have k3 := hKa ((r + 1) * 4 + 3) (by omega)
      clear hKa
      have r0 : (0 : Int) ≤ (r : Int) + 1 := by omega
      have r1 : (r : Int) + 1 < 11 := by omega
      refine region_head 7 mixedOrders (by kernel_rfl) ?_
      simp only [List.take_succ_cons, List.take_zero, List.drop_succ_cons, List.drop_zero]
      repeat (go_big_quiet_step (fail))
      refine wpQuiet_nil ?_
      clear k0 k1 k2 k3 c0 c1 c2 c3
      go_wp2_with fail
      refine (together_any _ _ _ _ _ _ _ _ _).mono ?_
      rintro e w1 ⟨rfl, hb1⟩
      have st4 := st3.drew.later hb1
      clear hb1 sz pa st3
      obtain ⟨c0, c1, c2, c3⟩ := st4.cells
      have f0 := st4.free 0
      have f1 := st4.free 1
      have f2 := st4.free 2
      have f3 := st4.free 3
      generalize hz : W4.xor _ _ = z
      unfold W4.val
      go_wp2_with fail
      have st5 := st4.sets z
      go_roundw
      case rel => exact ⟨r + 1, by omega, by go_num, by
        have e : roundsTo T ks ⟨a0, a1, a2, a3⟩ (r + 1) = z := by rw [← hz]; simp only [roundsTo]; rw [Hx.out, Hy.out]; rfl
        rw [e]; exact st5⟩
      case measure => simp [intOf]; omega
    · obtain rfl : r = 9 := by omega
      go_wp2_with fail
      have facts : ∀ w', Below wr.heap.size wr w' → (w'.cell? ⟨w.heap.size, 0, none⟩ = some (.int .u32 (n32 x.a)) ∧ w'.cell? ⟨w.heap.size, 1, none⟩ = some (.int .u32 (n32 x.b)) ∧ w'.cell? ⟨w.heap.size, 2, none⟩ = some (.int .u32 (n32 x.c)) ∧ w'.cell? ⟨w.heap.size, 3, none⟩ = some (.int .u32 (n32 x.d)))
          ∧ (w'.cell? ⟨p, 40, none⟩ = some (.int .u32 (n32 (ks 40))) ∧ w'.cell? ⟨p, 41, none⟩ = some (.int .u32 (n32 (ks 41))) ∧ w'.cell? ⟨p, 42, none⟩ = some (.int .u32 (n32 (ks 42))) ∧ w'.cell? ⟨p, 43, none⟩ = some (.int .u32 (n32 (ks 43)))) := fun w' h => by
        have h1 := st.later h
        refine ⟨h1.cells, ?_, ?_, ?_, ?_⟩ <;> rw [h1.below.cell (p := ⟨p, _, none⟩) hp] <;> exact hK _ (by omega)
      clear c0 c1 c2 c3 f0 f1 f2 f3
      have Facts := Lib.hid facts
      clear facts
      refine region_class 9 (fun w' => Below wr.heap.size wr w') mixedOrders (by kernel_rfl) (Below.refl _ _).drew ?_
      simp only [List.take_succ_cons, List.take_zero, List.drop_succ_cons, List.drop_zero]
      iterate 9
        (refine wpQuiet_want (by rfl) (fun K hK => ?_)
         apply Exists.intro
         refine ⟨fun w' hw' => ?_, ?_⟩
         · obtain ⟨⟨c0, c1, c2, c3⟩, k0, k1, k2, k3⟩ := Facts.out w' hw'
           have hw2 := Lib.hid hw'
           clear hw'
           go_simp
           first
             | rfl
             | (go_at_call 88
                refine (shifted_any T q _ _ _ _ w' (fun i hi => by rw [(st.later hw2.out).below.cell (p := ⟨q, i, none⟩) hq]; exact hT i hi) (by have := (st.later hw2.out).size; omega)).mono ?_
                rintro e w1 ⟨rfl, hb⟩
                exact ⟨rfl, hw2.out.trans (hb.mono hw2.out.size)⟩)
             | (go_at_call 87
                refine (together_any _ _ _ _ _ _ _ _ w').mono ?_
                rintro e w1 ⟨rfl, hb⟩
                exact ⟨rfl, hw2.out.trans (hb.mono hw2.out.size)⟩)
         (try simp only [W4.val])
         go_simp
         refine hK _ ?_
         clear hK K)
      refine wpQuiet_nil ?_
      intro wz hz
      have st1 := st.later hz
      have o0 := st1.outs 0 (by omega)
      have o1 := st1.outs 1 (by omega)
      have o2 := st1.outs 2 (by omega)
      have o3 := st1.outs 3 (by omega)
      have f0 := st1.outfree 0
      have f1 := st1.outfree 1
      have f2 := st1.outfree 2
      have f3 := st1.outfree 3
      have hb := st1.below
      clear hz st1 st Facts
      generalize hz : W4.xor _ _ = z
      have Hz := Lib.hid hz
      clear hz
      go_wp2_with fail
      refine bodyPost_ret (v := z.val) (by simp [results, Tryd.results71, go_sem, W4.val, o0, o1, o2, o3]) rfl ⟨?_, ?_⟩
      · have e : turned T ks ⟨a0, a1, a2, a3⟩ = z := by rw [← Hz.out]; unfold turned; rw [Hx.out]; rfl
        rw [e]
      · exact (((hb.setCell (by simp) _).setCell (by simp) _).setCell (by simp) _).setCell (by simp) _
end Go.Proofs.YtjbpjoondmcnlabDoor
/-
  THE CALLS OF PACKAGE aes, SIXTH PART: is there a key.
-/
namespace Go.Proofs.YtjbpjoondmcnlabDoor
open Go Go.RowKit Go.BigFrame
set_option maxRecDepth 100000
theorem wpList_run_g {P : Program} {ops : Array Oper} {Q : Exit → Act → World → Prop} {o : Oper} {rest : List Oper} {a : Act} {w w' : World} {v : Value} (hg : Region.wanted o (yielded ops a.tmps) = true)
    (hr : (execOp a.eval o).run P w = .ok (.value v) w') (h : wpList P ops Q rest (a.put o.dst v) w') : wpList P ops Q (o :: rest) a w :=
  wpList_want hg fun _ hK => by unfold Oper.wp; rw [hr]; exact hK _ _ h
def cells44 (ks : Nat → BitVec 32) : List Value := (List.range 44).map fun i => .int .u32 (n32 (ks i))
def zeros44 : List Value := (List.range 44).map fun _ => .int .u32 0
theorem under_11 : Tryd.prog.underlying 117 = some (.array 11 116) := by kernel_rfl
theorem under_w : Tryd.prog.underlying 116 = some (.array 4 114) := by kernel_rfl
theorem under_u32 : Tryd.prog.underlying 114 = some (.int .u32) := by kernel_rfl
theorem size_11 : (Tryd.prog.info? 117).map (·.size) = some 44 := by kernel_rfl
def lits44 (ks : Nat → BitVec 32) : List Lit := ((List.range 11).map fun r => ((List.range 4).map fun j => [Lit.int .u32 (n32 (ks (r * 4 + j)))]).flatten).flatten
theorem drop_take_range {α : Type} (f : Nat → α) (n m i : Nat) (h : i * m + m ≤ n) : (((List.range n).map f).drop (i * m)).take m = (List.range m).map fun j => f (i * m + j) := by
  apply List.ext_getElem?
  intro j
  by_cases hj : j < m
  · have h1 : i * m + j < n := by omega
    simp [hj, h1]
  · have h2 : m ≤ j := by omega
    simp [h2]
    omega
theorem keyLits_44 (ks : Nat → BitVec 32) : Tryd.prog.keyLits 3 117 (cells44 ks) = some (lits44 ks) := by
  refine keyLits_array (m := 4) _ under_11 (by kernel_rfl) (by kernel_rfl) (fun r hr => ?_)
  unfold cells44
  rw [drop_take_range _ 44 4 r (by omega)]
  refine keyLits_array (m := 1) (fun j => [Lit.int .u32 (n32 (ks (r * 4 + j)))]) under_w (by kernel_rfl) (by kernel_rfl) (fun j hj => ?_)
  rw [drop_take_one _ _ _ hj]
  exact keyLits_u32 _ under_u32
theorem lits44_inj (ks ls : Nat → BitVec 32) (h : lits44 ks = lits44 ls) : ∀ i, i < 44 → ks i = ls i := by
  have e : ∀ ks : Nat → BitVec 32, lits44 ks = (List.range 44).map fun i => Lit.int .u32 (n32 (ks i)) := fun ks => by kernel_rfl
  rw [e, e] at h
  intro i hi
  have := List.map_inj_left.1 h i (List.mem_range.2 hi)
  simp only [Lit.int.injEq, true_and] at this
  rwa [n32_inj] at this
theorem zeros44_eq : zeros44 = cells44 fun _ => 0#32 := by
  unfold zeros44 cells44
  refine List.map_congr_left (fun i _ => ?_)
  rw [show n32 0#32 = 0 from by unfold n32; rfl]
theorem run_keys (ks : Nat → BitVec 32) (w : World) (hz : ∃ i, i < 44 ∧ ks i ≠ 0#32) : (Op.equalIn 10000 117 (.agg (cells44 ks).toArray) (.agg zeros44.toArray)).run Tryd.prog w = .ok false w := by
  rw [zeros44_eq]
  have fa : ∀ b : Nat → BitVec 32, (Value.agg (cells44 b).toArray).formed Tryd.prog 117 = true := fun b => by
    unfold Value.formed
    rw [under_11]
    simp [cells44, show Tryd.prog.cellsOf 117 = 44 from by kernel_rfl]
  obtain ⟨r, hr, hiff⟩ := run_equalIn_deep (P := Tryd.prog) 9990 10 117 (by kernel_rfl) w 3 3 _ _ _ _ (fa ks) (fa fun _ => 0#32) (by simpa [Value.cells] using keyLits_44 ks) (by simpa [Value.cells] using keyLits_44 fun _ => 0#32)
  rw [hr]
  congr 1
  cases r with
  | false => rfl
  | true =>
    obtain ⟨i, hi, hne⟩ := hz
    exact absurd (lits44_inj _ _ (hiff.1 rfl) i hi) hne
set_option maxHeartbeats 1000000 in
theorem ready_nil (w : World) : Calls Tryd.prog 69 #[.pointer none] w fun e w' => e = .returned (.bool false) ∧ w = w' := by
  go_enter Tryd.func69, Tryd.ntmps69
  go_wp2
  go_ret
  exact ⟨rfl, rfl⟩
set_option maxHeartbeats 1000000 in
theorem ready_yes (ks : Nat → BitVec 32) (p : Nat) (w : World) (hK : ∀ i, i < 44 → w.cell? ⟨p, i, none⟩ = some (.int .u32 (n32 (ks i)))) (hz : ∃ i, i < 44 ∧ ks i ≠ 0#32) :
    Calls Tryd.prog 69 #[.pointer (some ⟨p, 0, none⟩)] w fun e w' => e = .returned (.bool true) ∧ w = w' := by
  have hr : w.rangeAt p 0 (cells44 ks) := fun j v hv => by
    have hj : j < 44 := by have := (List.getElem?_eq_some_iff.1 hv).1; simpa [cells44] using this
    rw [Nat.zero_add, hK j hj, ← hv]
    simp [cells44, hj]
  have h1 := run_keys ks w hz
  have H1 := Lib.hid h1
  have HR := Lib.hid hr
  clear hr h1 hK
  go_enter Tryd.func69, Tryd.ntmps69
  go_wp2_with (first
    | (refine wpList_run_g (o := ⟨some 9, .load 117 _, _, _, _, _⟩) (v := .agg (cells44 ks).toArray) (w' := w) rfl ?load ?_)
    | (refine wpList_run_g (o := ⟨some 10, .build 117 _, _, _, _, _⟩) (v := .agg zeros44.toArray) (w' := w) rfl (by kernel_rfl) ?_)
    | (refine wpList_run_g (o := ⟨some 11, .binOp .neq 117 _ _ _, _, _, _, _⟩) (v := .bool true) (w' := w) rfl ?neq ?_))
  case load =>
    unfold execOp
    show Sem.run _ (Instr.loadAt 117 (.pointer (some ⟨p, 0, none⟩)) >>= fun v => pure (Next.value v)) w = _
    rw [Sem.run_bind, run_loadAt_mid w p 0 117 (cells44 ks) _ HR.out under_11 rfl size_11]
    rfl
  case neq =>
    rw [H1.out]
    rfl
  go_ret
  exact ⟨rfl, rfl⟩
end Go.Proofs.YtjbpjoondmcnlabDoor
/-
  THE CALLS OF PACKAGE aes, SEVENTH PART: a key made ready.
-/
namespace Go.Proofs.YtjbpjoondmcnlabDoor
open Go Go.RowKit Go.BigFrame
set_option maxRecDepth 100000
def rcon : Nat → BitVec 8
  | 0 => 1#8
  | r + 1 => (dbl ((rcon r).setWidth 32)).setWidth 8
/-- The words of round r. -/
def keyAt (b : Nat → BitVec 8) : Nat → W4
  | 0 => W4.of b
  | r + 1 => W4.next sbox (keyAt b r) (rcon r)
def W4.word (x : W4) (j : Nat) : BitVec 32 := match j with | 0 => x.a | 1 => x.b | 2 => x.c | _ => x.d
def sched (b : Nat → BitVec 8) (i : Nat) : BitVec 32 := (keyAt b (i / 4)).word (i % 4)
def upd (ks : Nat → BitVec 32) (j : Nat) (x : BitVec 32) : Nat → BitVec 32 := fun i => if i = j then x else ks i
def upd4 (ks : Nat → BitVec 32) (r : Nat) (x : W4) : Nat → BitVec 32 := upd (upd (upd (upd ks (r * 4) x.a) (r * 4 + 1) x.b) (r * 4 + 2) x.c) (r * 4 + 3) x.d
theorem cells44_set (ks : Nat → BitVec 32) (j : Nat) (x : BitVec 32) : (cells44 ks).toArray.setIfInBounds j (.int .u32 (n32 x)) = (cells44 (upd ks j x)).toArray := by
  apply Array.ext_getElem?
  intro i
  rw [Array.getElem?_setIfInBounds]
  by_cases hij : j = i
  · subst hij
    by_cases hi : j < 44
    · simp [cells44, hi, upd]
    · simp [cells44, hi]
  · rw [if_neg hij]
    by_cases hi : i < 44
    · have : ¬ i = j := fun h => hij h.symm
      simp [cells44, hi, upd, this]
    · simp [cells44, hi]
/-- Block p holds the words ks, block q what stands for each byte; nothing below p has turned. -/
structure KeySt (w0 : World) (p q : Nat) (ks : Nat → BitVec 32) (w : World) : Prop where
  below : Below p w0 w
  row : w.heap[p]? = some (.cells (cells44 ks).toArray 119 (0, 0))
  box : w.heap[q]? = some (.cells sboxCells 106 (0, 0))
  apart : p ≠ q
theorem KeySt.later {w0 w w1 : World} {p q : Nat} {ks : Nat → BitVec 32} (h : KeySt w0 p q ks w) (hb : Below w.heap.size w w1) : KeySt w0 p q ks w1 :=
  ⟨h.below.trans (hb.mono (Nat.le_of_lt (lt_of_heap h.row))), by rw [hb.block _ (lt_of_heap h.row)]; exact h.row, by rw [hb.block _ (lt_of_heap h.box)]; exact h.box, h.apart⟩
theorem KeySt.key {w0 w : World} {p q : Nat} {ks : Nat → BitVec 32} (h : KeySt w0 p q ks w) (i : Nat) (hi : i < 44) : w.cell? ⟨p, i, none⟩ = some (.int .u32 (n32 (ks i))) := by
  rw [cell_of_row _ _ _ _ _ _ h.row]
  simp [cells44, hi]
theorem KeySt.sub {w0 w : World} {p q : Nat} {ks : Nat → BitVec 32} (h : KeySt w0 p q ks w) (i : Nat) (hi : i < 256) : w.cell? ⟨q, i, none⟩ = some (.int .u8 (n8 (sbox i))) := by
  rw [cell_of_row _ _ _ _ _ _ h.box]
  exact sboxCells_get i hi
theorem KeySt.free {w0 w : World} {p q : Nat} {ks : Nat → BitVec 32} (h : KeySt w0 p q ks w) (i : Nat) : w.frozen? ⟨p, i, none⟩ = false := frozen_of_row _ _ _ _ _ h.row
theorem KeySt.set {w0 w : World} {p q : Nat} {ks : Nat → BitVec 32} (h : KeySt w0 p q ks w) (j : Nat) (x : BitVec 32) : KeySt w0 p q (upd ks j x) (w.setCell ⟨p, j, none⟩ (.int .u32 (n32 x))) :=
  ⟨h.below.setCell (Nat.le_refl _) _, by rw [heap_setCell_same _ _ _ _ _ _ h.row, cells44_set], by rw [heap_setCell_other _ _ _ _ (Ne.symm h.apart)]; exact h.box, h.apart⟩
theorem KeySt.sets {w0 w : World} {p q : Nat} {ks : Nat → BitVec 32} (h : KeySt w0 p q ks w) (r : Nat) (y : W4) :
    KeySt w0 p q (upd4 ks r y) ((((w.setCell ⟨p, r * 4, none⟩ (.int .u32 (n32 y.a))).setCell ⟨p, r * 4 + 1, none⟩ (.int .u32 (n32 y.b))).setCell ⟨p, r * 4 + 2, none⟩ (.int .u32 (n32 y.c))).setCell ⟨p, r * 4 + 3, none⟩ (.int .u32 (n32 y.d))) :=
  (((h.set _ y.a).set _ y.b).set _ y.c).set _ y.d
theorem KeySt.drew {w0 w : World} {p q : Nat} {ks : Nat → BitVec 32} (h : KeySt w0 p q ks w) : KeySt w0 p q ks w.drew := ⟨h.below.drew, h.row, h.box, h.apart⟩
theorem KeySt.congr {w0 w : World} {p q : Nat} {ks ls : Nat → BitVec 32} (h : KeySt w0 p q ks w) (e : ∀ i, i < 44 → ks i = ls i) : KeySt w0 p q ls w :=
  ⟨h.below, by
    have : cells44 ks = cells44 ls := List.map_congr_left fun i hi => by rw [e i (List.mem_range.1 hi)]
    rw [← this]; exact h.row, h.box, h.apart⟩
/-- The first words are the schedule's. -/
def Sched (b : Nat → BitVec 8) (n : Nat) (ks : Nat → BitVec 32) : Prop := ∀ i, i < n * 4 → ks i = sched b i
theorem Sched.step {b : Nat → BitVec 8} {n : Nat} {ks : Nat → BitVec 32} (h : Sched b n ks) : Sched b (n + 1) (upd4 ks n (keyAt b n)) := fun i hi => by
  have hd : n * 4 ≤ i → i / 4 = n := fun h => by omega
  unfold upd4 upd sched
  by_cases h3 : i = n * 4 + 3
  · rw [if_pos h3, hd (by omega), show i % 4 = 3 by omega]; rfl
  rw [if_neg h3]
  by_cases h2 : i = n * 4 + 2
  · rw [if_pos h2, hd (by omega), show i % 4 = 2 by omega]; rfl
  rw [if_neg h2]
  by_cases h1 : i = n * 4 + 1
  · rw [if_pos h1, hd (by omega), show i % 4 = 1 by omega]; rfl
  rw [if_neg h1]
  by_cases h0 : i = n * 4
  · rw [if_pos h0, hd (by omega), show i % 4 = 0 by omega]; rfl
  rw [if_neg h0]
  exact h i (by omega)
theorem Sched.kw {b : Nat → BitVec 8} {n r : Nat} {ks : Nat → BitVec 32} (h : Sched b n ks) (hr : r < n) : (⟨ks (r * 4), ks (r * 4 + 1), ks (r * 4 + 2), ks (r * 4 + 3)⟩ : W4) = keyAt b r := by
  rw [h _ (by omega), h _ (by omega), h _ (by omega), h _ (by omega)]
  unfold sched
  rw [show r * 4 / 4 = r by omega, show (r * 4 + 1) / 4 = r by omega, show (r * 4 + 2) / 4 = r by omega, show (r * 4 + 3) / 4 = r by omega,
    show r * 4 % 4 = 0 by omega, show (r * 4 + 1) % 4 = 1 by omega, show (r * 4 + 2) % 4 = 2 by omega, show (r * 4 + 3) % 4 = 3 by omega]
  rfl
theorem array_16 (a : Option Addr) (c : Nat) (w : World) : (Instr.arrayAt 93 (.slice a 16 c)).run Tryd.prog w = .ok (.pointer a) w :=
  run_arrayAt _ _ _ _ _ _ _ (show Tryd.prog.underlying 93 = some (.array 16 5) from by kernel_rfl) (Nat.le_refl _)
attribute [go_sem] array_16
set_option maxHeartbeats 1000000 in
theorem new_bad (a : Option Addr) (n c : Nat) (w : World) (hn : n ≠ 16) :
    Calls Tryd.prog 47 #[.slice a n c] w fun e w' => e = .returned (.tuple #[.pointer none, .int .i64 1]) ∧ w = w' := by
  have h1 : ((n : Int) != 16) = true := by rw [bne_iff_ne]; omega
  have h2 : ((n : Int) == 16) = false := beq_eq_false_iff_ne.2 (by omega)
  go_enter Tryd.func47, Tryd.ntmps47
  go_wp2_with fail
  go_ret2
  exact ⟨rfl, rfl⟩
set_option maxHeartbeats 4000000 in
set_option maxRecDepth 100000 in
theorem new_ok (b : Nat → BitVec 8) (kb ko c : Nat) (w : World) (hb : ∀ i, i < 16 → w.cell? ⟨kb, ko + i, none⟩ = some (.int .u8 (n8 (b i)))) (hkb : kb < w.heap.size) :
    Calls Tryd.prog 47 #[.slice (some ⟨kb, ko, none⟩) 16 c] w fun e w' => e = .returned (.tuple #[.pointer (some ⟨w.heap.size, 0, none⟩), .int .i64 0]) ∧ ∃ q, KeySt w w.heap.size q (sched b) w' := by
  go_enter Tryd.func47, Tryd.ntmps47
  go_wp2_with (first
    | (refine wpList_run (o := ⟨some 11, .build 119 _, _, _, _, _⟩) (v := .agg zeros44.toArray) (w' := w) rfl (by kernel_rfl) ?_)
    | (go_at_call 65; refine (substitutes_any _).mono ?_; rintro e w1 ⟨rfl, hb1⟩)
    | (refine wpList_alloc_row (o := ⟨some 5, .alloc 106, _, _, _, _⟩) rfl 106 rfl zeros256 zero_256 ?_)
    | (refine wpList_store_new (o := ⟨none, .store 106 (.tmp 5) (.tmp 13), _, _, _, _⟩) rfl 106 _ _ rfl zeros256 sboxCells _ rfl rfl rfl size_256 (by kernel_rfl) sboxCells_one ?_))
  have st0 : KeySt w w.heap.size w1.heap.size (fun _ => 0#32) (w1.alloc (.cells sboxCells 106)) := by
    have hs : w.heap.size + 1 ≤ w1.heap.size := by have := hb1.size; simpa using this
    have h0 : w1.heap[w.heap.size]? = some (.cells (cells44 fun _ => 0#32).toArray 119 (0, 0)) := by
      rw [hb1.block _ (by simp), ← zeros44_eq]; exact heap_alloc_last _ _
    refine ⟨(((Below.refl _ _).alloc (Nat.le_refl _) _).trans (hb1.mono (by simp))).alloc (by omega) _, ?_, heap_alloc_last _ _, by omega⟩
    rw [Below.heap_alloc _ _ _ (by omega)]; exact h0
  generalize hq : w1.heap.size = q at *
  generalize hW : w1.alloc _ = wa at *
  clear hq hW hb1
  simp only [Act.put, List.setIfInBounds_toArray, List.set_cons_succ, List.set_cons_zero]
  have sc0 : Sched b 0 (fun _ => 0#32) := fun i hi => by omega
  have kaddr : kb < w.heap.size := hkb
  have facts : ∀ w', Below wa.heap.size wa w' → w'.cell? ⟨kb, ko, none⟩ = some (.int .u8 (n8 (b 0))) ∧ ∀ i, i < 16 → w'.cell? ⟨kb, ko + i, none⟩ = some (.int .u8 (n8 (b i))) := fun w' h =>
    ⟨by rw [(st0.later h).below.cell (p := ⟨kb, ko, none⟩) hkb]; exact hb 0 (by omega), fun i hi => by rw [(st0.later h).below.cell (p := ⟨kb, ko + i, none⟩) hkb]; exact hb i hi⟩
  have Facts := Lib.hid facts
  clear facts hb
  refine region_class 8 (fun w' => Below wa.heap.size wa w') mixedOrders (by kernel_rfl) (Below.refl _ _).drew ?_
  simp only [List.take_succ_cons, List.take_zero, List.drop_succ_cons, List.drop_zero]
  iterate 8
    (refine wpQuiet_want (by rfl) (fun K hK => ?_)
     apply Exists.intro
     refine ⟨fun w' hw' => ?_, ?_⟩
     · obtain ⟨c0, cc⟩ := Facts.out w' hw'
       have hw2 := Lib.hid hw'
       clear hw'
       go_simp
       first
         | rfl
         | (go_at_call 66
            refine (wordsOf_any b w').mono ?_
            rintro e w1 ⟨rfl, hb⟩
            exact ⟨rfl, hw2.out.trans (hb.mono hw2.out.size)⟩)
     go_simp
     refine hK _ ?_
     clear hK K)
  refine wpQuiet_nil ?_
  intro wb hwb
  have st1 := st0.later hwb
  clear hwb st0 Facts
  have c0 := st1.key 0 (by omega)
  have c1 := st1.key 1 (by omega)
  have c2 := st1.key 2 (by omega)
  have c3 := st1.key 3 (by omega)
  have f0 := st1.free 0
  have f1 := st1.free 1
  have f2 := st1.free 2
  have f3 := st1.free 3
  have hy : W4.of b = keyAt b 0 := rfl
  rw [hy]
  clear hy
  unfold W4.val
  go_wp2_with fail
  have st2 := st1.sets 0 (keyAt b 0)
  have sc1 := sc0.step
  simp only [Nat.zero_mul, Nat.zero_add] at st2 sc1
  clear c0 c1 c2 c3 f0 f1 f2 f3 sc0 st1
  generalize hW0 : (((World.setCell _ _ _).setCell _ _).setCell _ _).setCell _ _ = wc at *
  generalize upd4 _ 0 _ = ks at *
  clear hW0 wb
  go_loopw [6, 22] (fun rd i wr => ∃ r : Nat, r ≤ 10 ∧ i = .int .i64 (r : Int) ∧ rd = .int .u8 (n8 (rcon r)) ∧ ∃ ks, Sched b (r + 1) ks ∧ KeySt w w.heap.size q ks wr) (fun _ i _ => 10 - (intOf i).toNat)
  case atStart => exact ⟨0, by omega, rfl, by unfold n8 rcon; rfl, ks, sc1, st2⟩
  case round =>
    clear st2 sc1
    obtain ⟨r, hr, rfl, rfl, ks, sc, st⟩ := hrel
    by_cases hr9 : r < 10
    · have e1 : IntKind.i64.wrap ((r : Int) + 1) = (r : Int) + 1 := IntWalk.i64_in _ (by omega)
      have e2 : ((r : Int) + 1).toNat = r + 1 := by omega
      have b1 : (0 : Int) ≤ (r : Int) + 1 := by omega
      have b2 : (r : Int) + 1 < 11 := by omega
      have b3 : (r : Int) < 11 := by omega
      go_wp2_with fail
      have facts : ∀ w', Below wr.heap.size wr w' → (w'.cell? ⟨w.heap.size, r * 4, none⟩ = some (.int .u32 (n32 (ks (r * 4)))) ∧ w'.cell? ⟨w.heap.size, r * 4 + 1, none⟩ = some (.int .u32 (n32 (ks (r * 4 + 1)))) ∧ w'.cell? ⟨w.heap.size, r * 4 + 2, none⟩ = some (.int .u32 (n32 (ks (r * 4 + 2)))) ∧ w'.cell? ⟨w.heap.size, r * 4 + 3, none⟩ = some (.int .u32 (n32 (ks (r * 4 + 3))))) := fun w' h =>
        ⟨(st.later h).key _ (by omega), (st.later h).key _ (by omega), (st.later h).key _ (by omega), (st.later h).key _ (by omega)⟩
      have Facts := Lib.hid facts
      clear facts
      refine region_class 14 (fun w' => Below wr.heap.size wr w') mixedOrders (by kernel_rfl) (Below.refl _ _).drew ?_
      simp only [List.take_succ_cons, List.take_zero, List.drop_succ_cons, List.drop_zero]
      iterate 14
        (refine wpQuiet_want (by rfl) (fun K hK => ?_)
         apply Exists.intro
         refine ⟨fun w' hw' => ?_, ?_⟩
         · obtain ⟨c0, c1, c2, c3⟩ := Facts.out w' hw'
           have hw2 := Lib.hid hw'
           clear hw'
           go_simp
           first
             | rfl
             | (go_at_call 67
                refine (nextKey_any sbox q _ _ _ _ _ w' (st.later hw2.out).sub (lt_of_heap (st.later hw2.out).box)).mono ?_
                rintro e w1 ⟨rfl, hb⟩
                exact ⟨rfl, hw2.out.trans (hb.mono hw2.out.size)⟩)
         go_simp
         refine hK _ ?_
         clear hK K)
      refine wpQuiet_nil ?_
      intro wb hwb
      have st1 := st.later hwb
      clear hwb st Facts
      have hk := sc.kw (Nat.lt_succ_self r)
      rw [hk]
      have hy : W4.next sbox (keyAt b r) (rcon r) = keyAt b (r + 1) := rfl
      rw [hy]
      clear hy hk
      unfold W4.val
      have c0 := st1.key ((r + 1) * 4) (by omega)
      have c1 := st1.key ((r + 1) * 4 + 1) (by omega)
      have c2 := st1.key ((r + 1) * 4 + 2) (by omega)
      have c3 := st1.key ((r + 1) * 4 + 3) (by omega)
      have f0 := st1.free ((r + 1) * 4)
      have f1 := st1.free ((r + 1) * 4 + 1)
      have f2 := st1.free ((r + 1) * 4 + 2)
      have f3 := st1.free ((r + 1) * 4 + 3)
      go_wp2_with (go_at_call 68; refine (double_any _ _).mono ?_; rintro e w' ⟨rfl, rfl⟩)
      have st2 := st1.sets (r + 1) (keyAt b (r + 1))
      have sc1 := sc.step
      clear c0 c1 c2 c3 f0 f1 f2 f3 sc st1
      go_roundw
      case rel => exact ⟨r + 1, by omega, by go_num, rfl, _, sc1, st2⟩
      case measure => simp [intOf]; omega
    · obtain rfl : r = 10 := by omega
      go_wp2_with fail
      go_ret2
      exact ⟨rfl, q, st.congr (fun i hi => sc i (by omega))⟩
end Go.Proofs.YtjbpjoondmcnlabDoor
