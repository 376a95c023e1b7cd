/-
  guard: the mask that hides a first byte and a number, the program's and the document's.
-/
import Derived.Test.YtjbpjoondmcnlabDoorGsB
import Derived.Test.YtjbpjoondmcnlabDoorMg32
namespace Go.Proofs.YtjbpjoondmcnlabDoor
open Go Go.RowKit Go.BigFrame
set_option linter.unusedSimpArgs false
set_option linter.unusedVariables false
set_option maxRecDepth 100000
theorem run_mid_at (w : World) (g o lo hi n c : Nat) (L H : Int) (hL : L = (lo : Int)) (hH : H = (hi : Int)) (h1 : lo < hi) (h2 : hi ≤ n) (h3 : n ≤ c) :
    (Instr.sliceAt 31 (.slice (some ⟨g, o, none⟩) n c) (some (.int .i64 L)) (some (.int .i64 H)) none).run Tryd.prog w = .ok (.slice (some ⟨g, o + lo, none⟩) (hi - lo) (c - lo)) w := by
  subst hL hH
  have hu : Tryd.prog.underlying 31 = some (.slice (Tryd.prog.elem 31)) := by kernel_rfl
  have e0 : (0 : Int) ≤ (lo : Int) := by omega
  have e1 : (lo : Int) ≤ (hi : Int) := by omega
  have e2 : (hi : Int) ≤ (c : Int) := by omega
  have e3 : ¬ c = lo := by omega
  have e4 : ((⟨g, o, none⟩ : Addr).add lo) = ⟨g, o + lo, none⟩ := by unfold Addr.add; split <;> simp_all
  rw [run_sliceAt_slice (t := 31) (h := hu), run_slice_any (t := 31) (ht := hu)]
  simp [Instr.sliceBounds, go_sem, e0, e1, e2, e3, e4]
  try omega
/-- The mask of the bytes from a number on. -/
def mskF (mk f : Nat → BitVec 8) : Nat → BitVec 8 := W4.byte (turned sbox (sched mk) (W4.of (fun i => f (4 + i))))
theorem row16_in {w : World} {r : Nat} {G : Nat → BitVec 8} {T : TypeId} {fr : Nat × Nat} (h : w.heap[r]? = some (.cells (b16 G) T fr)) : BytesIn w (some ⟨r, 0, none⟩) 16 G :=
  ⟨by unfold maxLen; omega, .inr ⟨r, 0, rfl, lt_of_heap h, fun i hi => by rw [Nat.zero_add, cell_of_row _ _ _ _ _ _ h]; exact b16_get _ _ hi⟩⟩
set_option maxHeartbeats 8000000 in
theorem mask_any (mk f : Nat → BitVec 8) (K I : ByteArray) (a : Option Addr) (m c : Nat) (hm : 20 ≤ m) (hc : m ≤ c) (w : World) (h : BytesIn w a m f) :
    Calls Tryd.prog 30 #[.agg (kysC K I (strOf mk 16)), .slice a m c] w fun e w' => ∃ r, e = .returned (.tuple #[.slice (some ⟨r, 0, none⟩) 16 16, .int .i64 0]) ∧ w.heap.size ≤ r ∧ BytesIn w' (some ⟨r, 0, none⟩) 16 (mskF mk f) ∧ Below w.heap.size w w' := by
  have R0 : (w.alloc (.cells (kysC K I (strOf mk 16)) 34)).heap[w.heap.size]? = some (.cells (kysC K I (strOf mk 16)) 34 (0, 0)) := heap_alloc_last _ _
  have hb1 : Below w.heap.size w (w.alloc (.cells (kysC K I (strOf mk 16)) 34)) := (Below.refl w.heap.size w).alloc (Nat.le_refl _) _
  obtain ⟨c0, c1, c2⟩ := kys_cells R0
  obtain ⟨v1, w1, hcv, o1, b1⟩ := conv_ownZ mk 16 (by omega) (w.alloc (.cells (kysC K I (strOf mk 16)) 34)) (w.alloc (.cells (kysC K I (strOf mk 16)) 34)).heap.size (Nat.le_refl _)
  obtain ⟨g, cg, rfl, hg, hcg, hcm, rz⟩ := o1.rowZ (by omega)
  have B1 := Lib.hid (hb1.trans (b1.mono hb1.size))
  have N1 := Lib.hid (new_ok mk g 0 cg w1 (fun i hi => by rw [Nat.zero_add]; exact rz.at i hi) rz.lt)
  obtain ⟨_, h0 | ⟨b, ob, rfl, hb, hcell⟩⟩ := id h
  · omega
  have HC := Lib.hid hcell
  have s1 := fun w' => run_mid_at w' b ob 4 20 m c 4 20 rfl rfl (by omega) hm hc
  rw [show 20 - 4 = 16 by omega] at s1
  clear R0 hb1 o1 b1 rz h hcell
  unfold kysC at *
  generalize strOf mk 16 = SM at *
  go_enter Tryd.func30, Tryd.ntmps30
  go_upto_region 2 with (go_at_call 47; refine N1.out.mono ?_; rintro e w2 ⟨rfl, q, hk⟩; have C2 := Lib.hid hk.cipher; have B2 := Lib.hid (B1.out.trans (hk.below.mono B1.out.size)); clear hk)
  clear hcv N1 c0 c1 c2
  have BK := block_ok (sched mk) (fun i => f (4 + i)) w1.heap.size b (ob + 4) (c - 4) w2 C2.out (fun i hi => by
    have e : ob + 4 + i = ob + (4 + i) := by omega
    rw [e, B2.out.cell (p := ⟨b, ob + (4 + i), none⟩) hb]; exact HC.out (4 + i) (by omega)) (Nat.lt_of_lt_of_le hb B2.out.size)
  have HBK := Lib.hid BK
  clear BK
  go_wp2_with (go_at_call 48; refine HBK.out.mono ?_; rintro e w3 ⟨r, rfl, hf⟩; have F3 := Lib.hid hf; clear hf)
  go_ret2
  exact ⟨r, rfl, Nat.le_trans B2.out.size F3.out.new, row16_in F3.out.row, B2.out.trans (F3.out.below.mono B2.out.size)⟩
end Go.Proofs.YtjbpjoondmcnlabDoor
