/-
  THE CALLS OF PACKAGE field, THIRD PART: Sub, reduced, Mul.
-/
import Derived.Test.YtmfiabkhnoimhaaFieldB
namespace Go.Proofs.Ytmfiabkhnoimhaa
open Go Go.RowKit Go.BigFrame
set_option maxHeartbeats 4000000 in
theorem subE_any (x y : E5) (w : World) :
    Calls Try.prog 30 #[x.v, y.v] w fun e w' => e = .returned (x.sub y).v ∧ Below w.heap.size w w' := by
  rw [E5.v_eq x, E5.v_eq y]
  go_enter Try.func30, Try.ntmps30
  go_wp2
  refine wp_loop_rounds 5 ?_
  iterate 4
    (rw [rounds_succ]
     go_wp2)
  rw [rounds_succ]
  go_wp2
  generalize h0 : x.a + 9007199254740916#64 = u0
  generalize h1 : x.b + 9007199254740988#64 = u1
  generalize h2 : x.c + 9007199254740988#64 = u2
  generalize h3 : x.d + 9007199254740988#64 = u3
  generalize h4 : x.e + 9007199254740988#64 = u4
  have H : Hid (E5.carried ⟨u0 - y.a, u1 - y.b, u2 - y.c, u3 - y.d, u4 - y.e⟩ = x.sub y) := by
    show E5.carried ⟨u0 - y.a, u1 - y.b, u2 - y.c, u3 - y.d, u4 - y.e⟩ = x.sub y
    rw [← h0, ← h1, ← h2, ← h3, ← h4]; unfold E5.sub; exact Eq.refl _
  clear h0 h1 h2 h3 h4
  refine wp_loop_rounds 6 ?_
  iterate 5
    (rw [rounds_succ]
     go_wp2)
  rw [rounds_succ]
  go_wp2_with fail
  refine (carried_any ⟨u0 - y.a, u1 - y.b, u2 - y.c, u3 - y.d, u4 - y.e⟩ _).mono ?_
  rintro e w1 ⟨rfl, hb⟩
  rw [H.out]
  generalize hz : x.sub y = z
  have Hz := Lib.hid hz
  clear hz
  have hbel := (fin_below hb (B := w.heap.size) (w0 := w) (by simp; try omega) (by repeat (first | exact Below.refl _ _ | apply Below.drew | refine Below.alloc ?_ (by simp; try omega) _ | refine Below.setCell ?_ (by simp; try omega) _)))
  have hrow : w1.heap[w.heap.size + 1 + 1]? = some (.cells #[.int .u64 0, .int .u64 0, .int .u64 0, .int .u64 0, .int .u64 0] 40 (0, 0)) := below_row (k := w.heap.size + 2) hb (by simp) (rows_alloc w [_, _, _] 2)
  go_wp2_with (refine wpList_store_row rfl 40 _ _ rfl (w.heap.size + 1 + 1) _ _ _ rfl rfl hrow (Eq.trans (b := 5) rfl rfl) (by kernel_rfl) (by kernel_rfl) ?_; intro w2 hs2)
  exact ret_row (w.heap.size + 1 + 1) _ 40 z.cells rfl _ rfl hs2.row Try.underlying40 rfl (by kernel_rfl) rfl ⟨by rw [Hz.out]; rfl, hbel.trans (hs2.below _ (by omega))⟩
set_option maxHeartbeats 4000000 in
theorem reduced_any (x : E5) (w : World) :
    Calls Try.prog 35 #[x.v] w fun e w' => e = .returned x.reduced.v ∧ Below w.heap.size w w' := by
  rw [E5.v_eq x]
  go_enter Try.func35, Try.ntmps35
  go_wp2
  refine wp_loop_rounds 6 ?_
  iterate 5
    (rw [rounds_succ]
     go_wp2)
  rw [rounds_succ]
  go_wp2
  refine wp_loop_rounds 6 ?_
  iterate 5
    (rw [rounds_succ]
     go_wp2)
  rw [rounds_succ]
  go_wp2
  refine bodyPost_ret (v := x.reduced.v) (by simp [results, Try.results35, go_sem, E5.v, E5.reduced, E5.over, E5.up, E5.mask]) rfl ⟨rfl, ?_⟩
  repeat (first | exact Below.refl _ _ | apply Below.drew | refine Below.alloc ?_ (by simp; try omega) _)
end Go.Proofs.Ytmfiabkhnoimhaa
