/-
  THE CALLS OF PACKAGE field, FOURTH PART: Mul.
-/
import Derived.Test.YtmfiabkhnoimhaaFieldB
import Derived.Test.YtmfiabkhnoimhaaFast
namespace Go.Proofs.Ytmfiabkhnoimhaa
open Go Go.RowKit Go.BigFrame
set_option maxHeartbeats 40000000 in
set_option maxRecDepth 100000 in
theorem mulE_any (x y : E5) (w : World) :
    Calls Try.prog 19 #[x.v, y.v] w fun e w' => e = .returned (x.mul y).v ∧ Below w.heap.size w w' := by
  rw [E5.v_eq x, E5.v_eq y]
  go_enter Try.func19, Try.ntmps19
  go_wp2
  have st : ∃ W, W = ((w.alloc (.cells x.cells 40)).alloc (.cells y.cells 40)).alloc (.cells (E5.cells ⟨0#64, 0#64, 0#64, 0#64, 0#64⟩) 40) := ⟨_, rfl⟩
  obtain ⟨W, hW⟩ := st
  have z0 : n64 0#64 = 0 := by unfold n64; rfl
  have hb : Below w.heap.size w W := by
    rw [hW]; repeat (first | exact Below.refl _ _ | refine Below.alloc ?_ (by simp; try omega) _)
  have hsz : W.heap.size = w.heap.size + 3 := by rw [hW]; simp
  have rows : W.heap[w.heap.size]? = some (.cells x.cells 40 (0, 0)) ∧ W.heap[w.heap.size + 1]? = some (.cells y.cells 40 (0, 0)) ∧ W.heap[w.heap.size + 1 + 1]? = some (.cells (E5.cells ⟨0#64, 0#64, 0#64, 0#64, 0#64⟩) 40 (0, 0)) := by
    rw [hW]; exact ⟨rows_alloc w [_, _, _] 0, rows_alloc w [_, _, _] 1, rows_alloc w [_, _, _] 2⟩
  rw [show ((w.alloc _).alloc _).alloc _ = W from by rw [hW]; simp only [E5.cells, z0]]
  clear hW
  obtain ⟨r0, r1, r2⟩ := rows
  have facts : ∀ w', Below W.heap.size W w' →
      (w'.cell? ⟨w.heap.size, 0, none⟩ = some (.int .u64 (n64 x.a)) ∧ w'.cell? ⟨w.heap.size, 1, none⟩ = some (.int .u64 (n64 x.b)) ∧ w'.cell? ⟨w.heap.size, 2, none⟩ = some (.int .u64 (n64 x.c)) ∧ w'.cell? ⟨w.heap.size, 3, none⟩ = some (.int .u64 (n64 x.d)) ∧ w'.cell? ⟨w.heap.size, 4, none⟩ = some (.int .u64 (n64 x.e)))
      ∧ (w'.cell? ⟨w.heap.size + 1, 0, none⟩ = some (.int .u64 (n64 y.a)) ∧ w'.cell? ⟨w.heap.size + 1, 1, none⟩ = some (.int .u64 (n64 y.b)) ∧ w'.cell? ⟨w.heap.size + 1, 2, none⟩ = some (.int .u64 (n64 y.c)) ∧ w'.cell? ⟨w.heap.size + 1, 3, none⟩ = some (.int .u64 (n64 y.d)) ∧ w'.cell? ⟨w.heap.size + 1, 4, none⟩ = some (.int .u64 (n64 y.e))) := fun w' h => by
    have q0 := below_row h (by omega) r0
    have q1 := below_row h (by omega) r1
    refine ⟨⟨?_, ?_, ?_, ?_, ?_⟩, ?_, ?_, ?_, ?_, ?_⟩
    all_goals (first | (rw [cell_of_row _ _ _ _ _ _ q0]; rfl) | (rw [cell_of_row _ _ _ _ _ _ q1]; rfl))
  obtain ⟨⟨a0, a1, a2, a3, a4⟩, b0, b1, b2, b3, b4⟩ := facts W.drew (Below.refl _ _).drew
  have sz1 : w.heap.size + 1 < W.heap.size := by omega
  have Facts := Lib.hid facts
  clear facts r0 r1
  have Hsz := Lib.hid hsz
  clear hsz
  have R5 := Lib.hid r2
  clear r2
  refine region_quiet mixedOrders (by kernel_rfl) ?_
  repeat (go_big_quiet_step (fail))
  refine wpQuiet_nil ?_
  clear a0 a1 a2 a3 a4 b0 b1 b2 b3 b4 sz1
  go_wp2_with fail
  refine region_class1 196 (fun w' => Below W.heap.size W w') mixedOrders (lexTailB_fast (base := 33) (by kernel_rfl)) (Below.refl _ _).drew.drew rfl ?_
  iterate 196
    (refine wpQuiet_take (by rfl) (fun K hK => ?_)
     apply Exists.intro
     refine ⟨fun w' hw' => ?_, ?_⟩
     · obtain ⟨⟨a0, a1, a2, a3, a4⟩, b0, b1, b2, b3, b4⟩ := Facts.out w' hw'
       have hw2 := Lib.hid hw'
       clear hw'
       go_simp
       first
         | rfl
         | (go_at_call 33
            refine (times_wide _ _ w').mono ?_
            rintro e w1 ⟨rfl, hb⟩
            exact ⟨rfl, hw2.out.trans (hb.mono hw2.out.size)⟩)
         | (go_at_call 34
            refine (plus_wide _ _ _ w').mono ?_
            rintro e w1 ⟨rfl, hb⟩
            exact ⟨rfl, hw2.out.trans (hb.mono hw2.out.size)⟩)
         | (go_at_call 32
            refine (folded_any _ _ _ _ _ w').mono ?_
            rintro e w1 ⟨rfl, hb⟩
            exact ⟨rfl, hw2.out.trans (hb.mono hw2.out.size)⟩)
     go_simp
     refine hK _ ?_
     clear hK K)
  refine wpQuiet_take0 ?_
  intro wz hz
  have hsz := Hsz.out
  have hrow := below_row hz (by omega) R5.out
  have hbz := hb.trans (hz.mono (by omega))
  clear hz Facts R5 hb hsz
  go_wp2_with (refine wpList_store_row rfl 40 _ _ rfl (w.heap.size + 1 + 1) _ _ _ rfl rfl hrow (Eq.trans (b := 5) rfl rfl) (by kernel_rfl) (by kernel_rfl) ?_; intro w2 hs2)
  refine ret_row (w.heap.size + 1 + 1) _ 40 (x.mul y).cells rfl _ rfl hs2.row Try.underlying40 rfl (by kernel_rfl) rfl ⟨rfl, hbz.trans (hs2.below _ (by omega))⟩
end Go.Proofs.Ytmfiabkhnoimhaa
