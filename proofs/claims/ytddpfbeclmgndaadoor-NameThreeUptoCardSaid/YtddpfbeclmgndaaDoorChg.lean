/-
  WHAT A CALL CHANGES THAT WRITES ONE BLOCK ALONE.
-/
import Derived.Test.YtddpfbeclmgndaaDoorRowKit
import Derived.Test.YtddpfbeclmgndaaDoorRowIn
import Derived.Deep.MidRow
namespace Go.Proofs.YtddpfbeclmgndaaDoor
open Go Go.RowKit
/-- All but block b is as it was. -/
structure Chg (b : Nat) (w w' : World) : Prop where
  os : w'.os = w.os
  tape : w'.tape = w.tape
  output : w'.output = w.output
  size : w.heap.size ≤ w'.heap.size
  block : ∀ k, k < w.heap.size → k ≠ b → w'.heap[k]? = w.heap[k]?
theorem Chg.refl (b : Nat) (w : World) : Chg b w w := ⟨rfl, rfl, rfl, Nat.le_refl _, fun _ _ _ => rfl⟩
theorem Chg.trans {b : Nat} {w w1 w2 : World} (h : Chg b w w1) (k : Chg b w1 w2) : Chg b w w2 :=
  ⟨k.os.trans h.os, k.tape.trans h.tape, k.output.trans h.output, Nat.le_trans h.size k.size, fun i hi hb => (k.block i (Nat.lt_of_lt_of_le hi h.size) hb).trans (h.block i hi hb)⟩
theorem Chg.of_below {b : Nat} {w w' : World} (h : Below w.heap.size w w') : Chg b w w' := ⟨h.os, h.tape, h.output, h.size, fun k hk _ => h.block k hk⟩
theorem Chg.drew {b : Nat} {w w' : World} (h : Chg b w w') : Chg b w w'.drew := ⟨h.os, h.tape, h.output, h.size, h.block⟩
theorem Chg.below {b : Nat} {w w' : World} (h : Chg b w w') {B : Nat} (hB : B ≤ b) (hs : B ≤ w.heap.size) : Below B w w' :=
  ⟨h.os, h.tape, h.output, h.size, fun k hk => h.block k (by omega) (by omega)⟩
theorem Chg.cell {b : Nat} {w w' : World} (h : Chg b w w') {p : Addr} (hp : p.block < w.heap.size) (hb : p.block ≠ b) : w'.cell? p = w.cell? p := World.cell?_of_block (w := w) (h.block p.block hp hb)
theorem Chg.row {b k : Nat} {w w' : World} (h : Chg b w w') (hb : k ≠ b) {o : Obj} (e : w.heap[k]? = some o) : w'.heap[k]? = some o := by rw [h.block k (lt_row e) hb]; exact e
theorem RowSet.chg {w w' : World} {b : Nat} {T : TypeId} {c : Array Value} (h : RowSet w b T c w') : Chg b w w' := by
  have h0 := h.below 0 (Nat.zero_le _)
  exact ⟨h0.os, h0.tape, h0.output, h0.size, fun k _ hb => h.other k hb⟩
/-- Bytes that lie elsewhere stay. -/
theorem BytesIn.chg {b : Nat} {w w' : World} {a : Option Addr} {n : Nat} {f : Nat → BitVec 8} (h : BytesIn w a n f) (hc : Chg b w w') (ha : ∀ x, a = some x → x.block ≠ b) : BytesIn w' a n f := by
  refine ⟨h.1, ?_⟩
  rcases h.2 with h0 | ⟨k, off, rfl, hk, hcell⟩
  · exact .inl h0
  · exact .inr ⟨k, off, rfl, Nat.lt_of_lt_of_le hk hc.size, fun i hi => by rw [hc.cell (p := ⟨k, off + i, none⟩) hk (show k ≠ b from ha ⟨k, off, none⟩ rfl)]; exact hcell i hi⟩
end Go.Proofs.YtddpfbeclmgndaaDoor
