/-
  THE CALLS OF PACKAGE field, SECOND PART: folded, Add, Sub, reduced.
-/
import Derived.Test.YtmfiabkhnoimhaaFieldA
import Derived.Test.YtmfiabkhnoimhaaRowKit
namespace Go.Proofs.Ytmfiabkhnoimhaa
open Go Go.RowKit Go.BigFrame
theorem index_5 (cs : Array Value) (i : Int) (w : World) (h0 : 0 ≤ i) (h1 : i < 5) (hc : cs.size = 5) :
    (Instr.index 38 (.agg cs) (.int .i64 i)).run Try.prog w = .ok (cs[i.toNat]?.getD undef) w :=
  run_index_arr 38 37 5 cs .i64 .u64 i w (by kernel_rfl) (by kernel_rfl) (by kernel_rfl) h0 h1 hc
attribute [go_sem] index_5
theorem below_new {w : World} (c : Obj) : Below w.heap.size w (w.alloc c) := (Below.refl _ _).alloc (Nat.le_refl _) _
theorem fin_below {w0 w w1 : World} {B : Nat} (hb : Below w.heap.size w w1) (hB : B ≤ w.heap.size) (h : Below B w0 w) : Below B w0 w1 := h.trans (hb.mono hB)
theorem E5.v_eq (x : E5) : x.v = .agg #[.int .u64 (n64 x.a), .int .u64 (n64 x.b), .int .u64 (n64 x.c), .int .u64 (n64 x.d), .int .u64 (n64 x.e)] := rfl
def E5.cells (x : E5) : Array Value := #[.int .u64 (n64 x.a), .int .u64 (n64 x.b), .int .u64 (n64 x.c), .int .u64 (n64 x.d), .int .u64 (n64 x.e)]
theorem E5.v_cells (x : E5) : x.v = .agg x.cells := rfl
def wideC (s : Nat) : Array Value := #[.int .u64 (n64 (E5.hi s)), .int .u64 (n64 (E5.lo s))]
theorem wideV_eq (s : Nat) : wideV s = .agg (wideC s) := rfl
set_option maxHeartbeats 8000000 in
theorem folded_any (s0 s1 s2 s3 s4 : Nat) (w : World) :
    Calls Try.prog 32 #[wideV s0, wideV s1, wideV s2, wideV s3, wideV s4] w fun e w' => e = .returned (E5.folded s0 s1 s2 s3 s4).v ∧ Below w.heap.size w w' := by
  unfold wideV
  go_enter Try.func32, Try.ntmps32
  go_wp2
  have st : ∃ W, W = (((((w.alloc (.cells (wideC s0) 59)).alloc (.cells (wideC s1) 59)).alloc (.cells (wideC s2) 59)).alloc (.cells (wideC s3) 59)).alloc (.cells (wideC s4) 59)).alloc (.cells (E5.cells ⟨0#64, 0#64, 0#64, 0#64, 0#64⟩) 40) := ⟨_, rfl⟩
  obtain ⟨W, hW⟩ := st
  have z0 : n64 0#64 = 0 := by unfold n64; rfl
  have hb : Below w.heap.size w W := by
    rw [hW]; repeat (first | exact Below.refl _ _ | refine Below.alloc ?_ (by simp; try omega) _)
  have hsz : W.heap.size = w.heap.size + 6 := by rw [hW]; simp
  have rows : W.heap[w.heap.size]? = some (.cells (wideC s0) 59 (0, 0)) ∧ W.heap[w.heap.size + 1]? = some (.cells (wideC s1) 59 (0, 0)) ∧ W.heap[w.heap.size + 1 + 1]? = some (.cells (wideC s2) 59 (0, 0))
      ∧ W.heap[w.heap.size + 1 + 1 + 1]? = some (.cells (wideC s3) 59 (0, 0)) ∧ W.heap[w.heap.size + 1 + 1 + 1 + 1]? = some (.cells (wideC s4) 59 (0, 0)) ∧ W.heap[w.heap.size + 1 + 1 + 1 + 1 + 1]? = some (.cells (E5.cells ⟨0#64, 0#64, 0#64, 0#64, 0#64⟩) 40 (0, 0)) := by
    rw [hW]; exact ⟨rows_alloc w [_, _, _, _, _, _] 0, rows_alloc w [_, _, _, _, _, _] 1, rows_alloc w [_, _, _, _, _, _] 2, rows_alloc w [_, _, _, _, _, _] 3, rows_alloc w [_, _, _, _, _, _] 4, rows_alloc w [_, _, _, _, _, _] 5⟩
  rw [show (((((w.alloc _).alloc _).alloc _).alloc _).alloc _).alloc _ = W from by rw [hW]; simp only [wideC, E5.cells, z0]]
  clear hW
  obtain ⟨r0, r1, r2, r3, r4, r5⟩ := rows
  have facts : ∀ w', Below W.heap.size W w' → (w'.cell? ⟨w.heap.size, 0, none⟩ = some (.int .u64 (n64 (E5.hi s0))) ∧ w'.cell? ⟨w.heap.size, 1, none⟩ = some (.int .u64 (n64 (E5.lo s0))))
      ∧ (w'.cell? ⟨w.heap.size + 1, 0, none⟩ = some (.int .u64 (n64 (E5.hi s1))) ∧ w'.cell? ⟨w.heap.size + 1, 1, none⟩ = some (.int .u64 (n64 (E5.lo s1))))
      ∧ (w'.cell? ⟨w.heap.size + 1 + 1, 0, none⟩ = some (.int .u64 (n64 (E5.hi s2))) ∧ w'.cell? ⟨w.heap.size + 1 + 1, 1, none⟩ = some (.int .u64 (n64 (E5.lo s2))))
      ∧ (w'.cell? ⟨w.heap.size + 1 + 1 + 1, 0, none⟩ = some (.int .u64 (n64 (E5.hi s3))) ∧ w'.cell? ⟨w.heap.size + 1 + 1 + 1, 1, none⟩ = some (.int .u64 (n64 (E5.lo s3))))
      ∧ (w'.cell? ⟨w.heap.size + 1 + 1 + 1 + 1, 0, none⟩ = some (.int .u64 (n64 (E5.hi s4))) ∧ w'.cell? ⟨w.heap.size + 1 + 1 + 1 + 1, 1, none⟩ = some (.int .u64 (n64 (E5.lo s4)))) := fun w' h => by
    refine ⟨⟨?_, ?_⟩, ⟨?_, ?_⟩, ⟨?_, ?_⟩, ⟨?_, ?_⟩, ?_, ?_⟩
    · rw [cell_of_row _ _ _ _ _ _ (below_row h (by omega) r0)]; rfl
    · rw [cell_of_row _ _ _ _ _ _ (below_row h (by omega) r0)]; rfl
    · rw [cell_of_row _ _ _ _ _ _ (below_row h (by omega) r1)]; rfl
    · rw [cell_of_row _ _ _ _ _ _ (below_row h (by omega) r1)]; rfl
    · rw [cell_of_row _ _ _ _ _ _ (below_row h (by omega) r2)]; rfl
    · rw [cell_of_row _ _ _ _ _ _ (below_row h (by omega) r2)]; rfl
    · rw [cell_of_row _ _ _ _ _ _ (below_row h (by omega) r3)]; rfl
    · rw [cell_of_row _ _ _ _ _ _ (below_row h (by omega) r3)]; rfl
    · rw [cell_of_row _ _ _ _ _ _ (below_row h (by omega) r4)]; rfl
    · rw [cell_of_row _ _ _ _ _ _ (below_row h (by omega) r4)]; rfl
  have Facts := Lib.hid facts
  clear facts r0 r1 r2 r3 r4
  have Hsz := Lib.hid hsz
  clear hsz
  have R5 := Lib.hid r5
  clear r5
  refine region_class 29 (fun w' => Below W.heap.size W w') mixedOrders (by kernel_rfl) (Below.refl _ _).drew ?_
  simp only [List.take_succ_cons, List.take_zero, List.drop_succ_cons, List.drop_zero]
  iterate 29
    (refine wpQuiet_want (by rfl) (fun K hK => ?_)
     apply Exists.intro
     refine ⟨fun w' hw' => ?_, ?_⟩
     · obtain ⟨⟨a0, b0⟩, ⟨a1, b1⟩, ⟨a2, b2⟩, ⟨a3, b3⟩, ⟨a4, b4⟩⟩ := Facts.out w' hw'
       have hw2 := Lib.hid hw'
       clear hw'
       go_simp
       first
         | rfl
         | (go_at_call 40
            refine (limb_any _ w').mono ?_
            rintro e w1 ⟨rfl, hb⟩
            exact ⟨rfl, hw2.out.trans (hb.mono hw2.out.size)⟩)
         | (go_at_call 41
            refine (above_any _ w').mono ?_
            rintro e w1 ⟨rfl, hb⟩
            exact ⟨rfl, hw2.out.trans (hb.mono hw2.out.size)⟩)
         | (go_at_call 39
            refine (carried_any ⟨_, _, _, _, _⟩ w').mono ?_
            rintro e w1 ⟨rfl, hb⟩
            exact ⟨rfl, hw2.out.trans (hb.mono hw2.out.size)⟩)
     go_simp
     refine hK _ ?_
     clear hK K)
  refine wpQuiet_nil ?_
  intro wz hz
  have hsz := Hsz.out
  have hrow := below_row hz (by omega) R5.out
  have hbz := hb.trans (hz.mono (by omega))
  clear hz Facts R5 hb hsz
  go_wp2_with (refine wpList_store_row rfl 40 _ _ rfl (w.heap.size + 1 + 1 + 1 + 1 + 1) _ _ _ rfl rfl hrow (Eq.trans (b := 5) rfl rfl) (by kernel_rfl) (by kernel_rfl) ?_; intro w2 hs2)
  refine ret_row (w.heap.size + 1 + 1 + 1 + 1 + 1) _ 40 (E5.cells (E5.folded s0 s1 s2 s3 s4)) rfl _ rfl hs2.row Try.underlying40 rfl (by kernel_rfl) rfl ⟨rfl, hbz.trans (hs2.below _ (by omega))⟩
set_option maxHeartbeats 4000000 in
theorem addE_any (x y : E5) (w : World) :
    Calls Try.prog 29 #[x.v, y.v] w fun e w' => e = .returned (x.add y).v ∧ Below w.heap.size w w' := by
  rw [E5.v_eq x, E5.v_eq y]
  go_enter Try.func29, Try.ntmps29
  go_wp2
  refine wp_loop_rounds 6 ?_
  iterate 5
    (rw [rounds_succ]
     go_wp2)
  rw [rounds_succ]
  go_wp2_with fail
  refine (carried_any ⟨x.a + y.a, x.b + y.b, x.c + y.c, x.d + y.d, x.e + y.e⟩ _).mono ?_
  rintro e w1 ⟨rfl, hb⟩
  have hbel := (fin_below hb (B := w.heap.size) (w0 := w) (by simp; try omega) (by repeat (first | exact Below.refl _ _ | apply Below.drew | refine Below.alloc ?_ (by simp; try omega) _ | refine Below.setCell ?_ (by simp; try omega) _)))
  have hrow : w1.heap[w.heap.size + 1 + 1]? = some (.cells #[.int .u64 0, .int .u64 0, .int .u64 0, .int .u64 0, .int .u64 0] 40 (0, 0)) := below_row (k := w.heap.size + 2) hb (by simp) (rows_alloc w [_, _, _] 2)
  go_wp2_with (refine wpList_store_row rfl 40 _ _ rfl (w.heap.size + 1 + 1) _ _ _ rfl rfl hrow (Eq.trans (b := 5) rfl rfl) (by kernel_rfl) (by kernel_rfl) ?_; intro w2 hs2)
  exact ret_row (w.heap.size + 1 + 1) _ 40 (x.add y).cells rfl _ rfl hs2.row Try.underlying40 rfl (by kernel_rfl) rfl ⟨rfl, hbel.trans (hs2.below _ (by omega))⟩
end Go.Proofs.Ytmfiabkhnoimhaa
