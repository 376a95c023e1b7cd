/-
  THE CALLS OF PACKAGE gcm, FOURTH PART: a register behind a text's blocks.
-/
import Derived.Test.YtoocglckhphepaaGcmC
import Derived.Test.YtoocglckhphepaaAesN
import Derived.Test.YtoocglckhphepaaRegion
import Derived.Test.YtoocglckhphepaaCallRegion
namespace Go.Proofs.Ytoocglckhphepaa
open Go Go.RowKit Go.BigFrame
set_option maxRecDepth 100000
set_option linter.unusedSimpArgs false
/-- A box's H, as it lies in memory. -/
structure BoxH (w : World) (p : Nat) (h : W2) : Prop where
  c1 : w.cell? ⟨p, 1, none⟩ = some (.int .u64 (n64 h.hi))
  c2 : w.cell? ⟨p, 2, none⟩ = some (.int .u64 (n64 h.lo))
  lt : p < w.heap.size
theorem BoxH.later {w w1 : World} {p : Nat} {h : W2} (b : BoxH w p h) (hb : Below w.heap.size w w1) : BoxH w1 p h :=
  ⟨by rw [hb.cell (p := ⟨p, 1, none⟩) b.lt]; exact b.c1, by rw [hb.cell (p := ⟨p, 2, none⟩) b.lt]; exact b.c2, Nat.lt_of_lt_of_le b.lt hb.size⟩
/-- The register behind k whole blocks. -/
def sumK (h r : W2) (f : Nat → BitVec 8) : Nat → W2
  | 0 => r
  | k + 1 => W2.mul (W2.xor (sumK h r f k) (W2.of (fun i => f (16 * k + i)))) h
/-- The last block, filled up. -/
def padF (f : Nat → BitVec 8) (n i : Nat) : BitVec 8 := if i < n then f i else 0#8
def sumB (h r : W2) (f : Nat → BitVec 8) (n : Nat) : W2 :=
  if n % 16 = 0 then sumK h r f (n / 16) else W2.mul (W2.xor (sumK h r f (n / 16)) (W2.of (padF (fun i => f (16 * (n / 16) + i)) (n % 16)))) h
structure SumSt (w0 : World) (x : W2) (w : World) : Prop where
  below : Below w0.heap.size w0 w
  reg : w.heap[w0.heap.size]? = some (.cells (c2 x) 46 (0, 0))
  out : w.heap[w0.heap.size + 1]? = some (.cells #[.int .u64 0, .int .u64 0] 46 (0, 0))
theorem SumSt.later {w0 w w1 : World} {x : W2} (s : SumSt w0 x w) (hb : Below w.heap.size w w1) : SumSt w0 x w1 :=
  ⟨s.below.trans (hb.mono s.below.size), by rw [hb.block _ (lt_of_heap s.reg)]; exact s.reg, by rw [hb.block _ (lt_of_heap s.out)]; exact s.out⟩
theorem SumSt.cells {w0 w : World} {x : W2} (s : SumSt w0 x w) : w.cell? ⟨w0.heap.size, 0, none⟩ = some (.int .u64 (n64 x.hi)) ∧ w.cell? ⟨w0.heap.size, 1, none⟩ = some (.int .u64 (n64 x.lo)) := by
  rw [cell_of_row _ _ _ _ _ _ s.reg, cell_of_row _ _ _ _ _ _ s.reg]
  exact ⟨rfl, rfl⟩
theorem SumSt.free {w0 w : World} {x : W2} (s : SumSt w0 x w) (j : Nat) : w.frozen? ⟨w0.heap.size, j, none⟩ = false := frozen_of_row _ _ _ _ _ s.reg
theorem SumSt.outs {w0 w : World} {x : W2} (s : SumSt w0 x w) : w.cell? ⟨w0.heap.size + 1, 0, none⟩ = some (.int .u64 0) ∧ w.cell? ⟨w0.heap.size + 1, 1, none⟩ = some (.int .u64 0) := by
  rw [cell_of_row _ _ _ _ _ _ s.out, cell_of_row _ _ _ _ _ _ s.out]
  exact ⟨rfl, rfl⟩
theorem SumSt.outfree {w0 w : World} {x : W2} (s : SumSt w0 x w) (j : Nat) : w.frozen? ⟨w0.heap.size + 1, j, none⟩ = false := frozen_of_row _ _ _ _ _ s.out
theorem SumSt.sets {w0 w : World} {x : W2} (s : SumSt w0 x w) (y : W2) : SumSt w0 y ((w.setCell ⟨w0.heap.size, 0, none⟩ (.int .u64 (n64 y.hi))).setCell ⟨w0.heap.size, 1, none⟩ (.int .u64 (n64 y.lo))) := by
  refine ⟨(s.below.setCell (Nat.le_refl _) _).setCell (Nat.le_refl _) _, ?_, ?_⟩
  · rw [heap_setCell_same _ _ _ _ _ _ (heap_setCell_same _ _ _ _ _ _ s.reg)]
    rfl
  · rw [heap_setCell_other _ _ _ _ (show w0.heap.size + 1 ≠ w0.heap.size by omega), heap_setCell_other _ _ _ _ (show w0.heap.size + 1 ≠ w0.heap.size by omega)]; exact s.out
theorem run_from16 (a : Option Addr) (m c : Nat) (hm : 16 ≤ m) : ∃ a', (∀ w : World, (Instr.sliceAt 25 (.slice a m c) (some (.int .i64 16)) none none).run Try.prog w = .ok (.slice a' (m - 16) (c - 16)) w) ∧ (c ≠ 16 → a' = a.map (·.add 16)) := by
  refine ⟨if c = 16 then a else a.map (·.add 16), fun w => ?_, fun h => by rw [if_neg h]⟩
  have hu : Try.prog.underlying 25 = some (.slice (Try.prog.elem 25)) := by kernel_rfl
  rw [run_sliceAt_slice (t := 25) (h := hu), run_slice_any (t := 25) (ht := hu)]
  have h0 : (0 : Int) ≤ (16 : Int) := by omega
  have h1 : (16 : Int) ≤ (m : Int) := by omega
  simp [Instr.sliceBounds, go_sem, h0, h1]
theorem b16_range (g : Nat → BitVec 8) (b o : Nat) (w : World) (hc : ∀ i, i < 16 → w.cell? ⟨b, o + i, none⟩ = some (.int .u8 (n8 (g i)))) : w.rangeAt b o (b16 g).toList := fun j v hv => by
  have hj : j < 16 := by have := (List.getElem?_eq_some_iff.1 hv).1; simpa [b16] using this
  rw [hc j hj]
  rw [Array.getElem?_toList, b16_get g j hj] at hv
  exact hv
theorem load16_any (g : Nat → BitVec 8) (b o : Nat) (w : World) (hc : ∀ i, i < 16 → w.cell? ⟨b, o + i, none⟩ = some (.int .u8 (n8 (g i)))) :
    (Instr.loadAt 22 (.pointer (some ⟨b, o, none⟩))).run Try.prog w = .ok (.agg (b16 g)) w := by
  have h := run_loadAt_mid (P := Try.prog) w b o 22 (b16 g).toList (.array 16 5) (b16_range g b o w hc) (by kernel_rfl) rfl (by rw [Array.length_toList]; kernel_rfl)
  rw [Array.toArray_toList] at h
  exact h
theorem quiet_run {P : Program} {x : Sem Value} {v : Value} {w : World} (h : x.run P w = .ok v w) : (x >>= fun v => pure (Next.value v)).run P w = .ok (.value v) w := by
  rw [Sem.run_bind, h]; rfl
end Go.Proofs.Ytoocglckhphepaa
