/-
  sha: a hash as a row of cells, and what changes it.
-/
import Derived.Test.YtebhhonmpoeliaaDoorShaD
import Derived.Test.YtebhhonmpoeliaaDoorRowIn
import Derived.Test.YtebhhonmpoeliaaDoorCallRegion
import Derived.Deep.MidRow
namespace Go.Proofs.YtebhhonmpoeliaaDoor
open Go Go.RowKit Go.BigFrame
set_option linter.unusedSimpArgs false
set_option linter.unusedVariables false
/-- All but block b is as it was. -/
structure Chg (b : Nat) (w w' : World) : Prop where
  os : w'.os = w.os
  tape : w'.tape = w.tape
  output : w'.output = w.output
  size : w.heap.size ≤ w'.heap.size
  block : ∀ k, k < w.heap.size → k ≠ b → w'.heap[k]? = w.heap[k]?
theorem Chg.refl (b : Nat) (w : World) : Chg b w w := ⟨rfl, rfl, rfl, Nat.le_refl _, fun _ _ _ => rfl⟩
theorem Chg.trans {b : Nat} {w w1 w2 : World} (h : Chg b w w1) (k : Chg b w1 w2) : Chg b w w2 :=
  ⟨k.os.trans h.os, k.tape.trans h.tape, k.output.trans h.output, Nat.le_trans h.size k.size, fun i hi hb => (k.block i (Nat.lt_of_lt_of_le hi h.size) hb).trans (h.block i hi hb)⟩
theorem Chg.of_below {b : Nat} {w w' : World} (h : Below w.heap.size w w') : Chg b w w' := ⟨h.os, h.tape, h.output, h.size, fun k hk _ => h.block k hk⟩
theorem Chg.drew {b : Nat} {w w' : World} (h : Chg b w w') : Chg b w w'.drew := ⟨h.os, h.tape, h.output, h.size, h.block⟩
theorem Chg.below {b : Nat} {w w' : World} (h : Chg b w w') {B : Nat} (hB : B ≤ b) (hs : B ≤ w.heap.size) : Below B w w' :=
  ⟨h.os, h.tape, h.output, h.size, fun k hk => h.block k (by omega) (by omega)⟩
theorem Chg.cell {b : Nat} {w w' : World} (h : Chg b w w') {p : Addr} (hp : p.block < w.heap.size) (hb : p.block ≠ b) : w'.cell? p = w.cell? p := World.cell?_of_block (w := w) (h.block p.block hp hb)
theorem Chg.row {b k : Nat} {w w' : World} (h : Chg b w w') (hb : k ≠ b) {o : Obj} (e : w.heap[k]? = some o) : w'.heap[k]? = some o := by rw [h.block k (lt_row e) hb]; exact e
/-- A new block of the call's own: b is none of those that were there. -/
theorem Chg.all {b : Nat} {w w' : World} (h : Chg b w w') (hb : w.heap.size ≤ b) : Below w.heap.size w w' := h.below hb (Nat.le_refl _)
theorem RowSet.chg {w w' : World} {b : Nat} {T : TypeId} {c : Array Value} (h : RowSet w b T c w') : Chg b w w' := by
  have h0 := h.below 0 (Nat.zero_le _)
  exact ⟨h0.os, h0.tape, h0.output, h0.size, fun k _ hb => h.other k hb⟩
theorem TabK.chg {b : Nat} {w w' : World} (T : TabK w) (h : Chg b w w') (hb : 0 < b) : TabK w' :=
  ⟨fun i hi => by rw [h.cell (p := ⟨0, i, none⟩) T.lt (by show (0 : Nat) ≠ b; omega)]; exact T.cell i hi⟩
/-- A hash's cells: the state, the block, the count. -/
def cellH (v : W8) (g : Nat → BitVec 8) (n : Nat) (i : Nat) : Value := if i < 8 then .int .u32 (n32 (v.get i)) else if i < 72 then .int .u8 (n8 (g (i - 8))) else .int .u64 (n : Int)
def hashA (v : W8) (g : Nat → BitVec 8) (n : Nat) : Array Value := ((List.range 73).map (cellH v g n)).toArray
theorem hashA_size (v : W8) (g : Nat → BitVec 8) (n : Nat) : (hashA v g n).size = 73 := by simp [hashA]
theorem hashA_get (v : W8) (g : Nat → BitVec 8) (n : Nat) {i : Nat} (h : i < 73) : (hashA v g n)[i]? = some (cellH v g n i) := by simp [hashA, h]
theorem hashA_one (v : W8) (g : Nat → BitVec 8) (n : Nat) : (hashA v g n).all (·.oneCell') = true := by
  rw [Array.all_eq_true_iff_forall_mem]
  intro x hx
  simp only [hashA, List.mem_toArray, List.mem_map] at hx
  obtain ⟨i, _, rfl⟩ := hx
  unfold cellH
  by_cases h1 : i < 8
  · rw [if_pos h1]; rfl
  · rw [if_neg h1]
    by_cases h2 : i < 72
    · rw [if_pos h2]; rfl
    · rw [if_neg h2]; rfl
theorem hashA_ext {C : Array Value} {v : W8} {g : Nat → BitVec 8} {n : Nat} (hs : C.size = 73) (h : ∀ i, i < 73 → C[i]? = some (cellH v g n i)) : C = hashA v g n := by
  apply Array.ext_getElem?
  intro i
  by_cases hi : i < 73
  · rw [h i hi, hashA_get _ _ _ hi]
  · rw [Array.getElem?_eq_none (by omega), Array.getElem?_eq_none (by rw [hashA_size]; omega)]
/-- A hash in block b. -/
def HashRow (w : World) (b : Nat) (v : W8) (g : Nat → BitVec 8) (n : Nat) : Prop := w.heap[b]? = some (.cells (hashA v g n) 63 (0, 0))
theorem HashRow.at {w : World} {b : Nat} {v : W8} {g : Nat → BitVec 8} {n : Nat} (h : HashRow w b v g n) {i : Nat} (hi : i < 73) : w.cell? ⟨b, i, none⟩ = some (cellH v g n i) := by
  rw [cell_of_row _ _ _ _ _ _ h]; exact hashA_get _ _ _ hi
theorem HashRow.free {w : World} {b : Nat} {v : W8} {g : Nat → BitVec 8} {n : Nat} (h : HashRow w b v g n) (i : Nat) : w.frozen? ⟨b, i, none⟩ = false := frozen_of_row _ _ _ _ _ h
theorem HashRow.len {w : World} {b : Nat} {v : W8} {g : Nat → BitVec 8} {n : Nat} (h : HashRow w b v g n) : w.cell? ⟨b, 72, none⟩ = some (.int .u64 (n : Int)) := h.at (by omega)
theorem HashRow.later {w w' : World} {b : Nat} {v : W8} {g : Nat → BitVec 8} {n : Nat} (h : HashRow w b v g n) (hb : Below w.heap.size w w') : HashRow w' b v g n := by
  unfold HashRow at *; rw [hb.block b (lt_row h)]; exact h
theorem HashRow.there {w : World} {b : Nat} {v : W8} {g : Nat → BitVec 8} {n : Nat} (h : HashRow w b v g n) {o k : Nat} (hk : o + k ≤ 73) : w.there b o k := fun j hj => ⟨by rw [h.at (by omega)]; rfl, h.free _⟩
theorem HashRow.words {w : World} {b : Nat} {v : W8} {g : Nat → BitVec 8} {n : Nat} (h : HashRow w b v g n) : w.rangeAt b 0 (wordsA v.get 8).toList := fun j x hx => by
  rw [Array.getElem?_toList] at hx
  have hj : j < 8 := by have := (Array.getElem?_eq_some_iff.1 hx).1; rwa [wordsA_size] at this
  rw [wordsA_get _ hj] at hx
  rw [Nat.zero_add, h.at (by omega), ← hx]
  unfold cellH
  rw [if_pos hj]
theorem HashRow.bytes {w : World} {b : Nat} {v : W8} {g : Nat → BitVec 8} {n : Nat} (h : HashRow w b v g n) : w.rangeAt b 8 (bytesA g 64).toList := fun j x hx => by
  rw [Array.getElem?_toList] at hx
  have hj : j < 64 := by have := (Array.getElem?_eq_some_iff.1 hx).1; rwa [bytesA_size] at this
  rw [bytesA_get _ hj] at hx
  rw [h.at (by omega), ← hx]
  unfold cellH
  rw [if_neg (by omega), if_pos (by omega), Nat.add_sub_cancel_left]
theorem load_state {w : World} {b : Nat} {v : W8} {g : Nat → BitVec 8} {n : Nat} (h : HashRow w b v g n) : (Instr.loadAt 57 (.pointer (some ⟨b, 0, none⟩))).run Tryd.prog w = .ok (.agg (wordsA v.get 8)) w := by
  have := run_loadAt_mid (P := Tryd.prog) w b 0 57 (wordsA v.get 8).toList _ h.words Tryd.underlying57 rfl (by rw [Array.length_toList, wordsA_size]; kernel_rfl)
  rwa [Array.toArray_toList] at this
theorem load_block {w : World} {b : Nat} {v : W8} {g : Nat → BitVec 8} {n : Nat} (h : HashRow w b v g n) : (Instr.loadAt 48 (.pointer (some ⟨b, 8, none⟩))).run Tryd.prog w = .ok (.agg (bytesA g 64)) w := by
  have := run_loadAt_mid (P := Tryd.prog) w b 8 48 (bytesA g 64).toList _ h.bytes Tryd.underlying48 rfl (by rw [Array.length_toList, bytesA_size]; kernel_rfl)
  rwa [Array.toArray_toList] at this
/-- What a change of the hash leaves. -/
structure HashSet (w : World) (b : Nat) (v : W8) (g : Nat → BitVec 8) (n : Nat) (w' : World) : Prop where
  row : HashRow w' b v g n
  chg : Chg b w w'
  size : w'.heap.size = w.heap.size
theorem setCells_chg (w : World) (b o : Nat) (vs : List Value) : Chg b w (w.setCells b o vs) := by
  have h0 : Below 0 w (w.setCells b o vs) := setCells_below 0 b (Nat.zero_le _) vs o w w (Below.refl _ _)
  exact ⟨h0.os, h0.tape, h0.output, h0.size, fun k _ hk => setCells_other b k hk vs o w⟩
theorem HashRow.setCells {w : World} {b : Nat} {v v' : W8} {g g' : Nat → BitVec 8} {n n' : Nat} (h : HashRow w b v g n) (o : Nat) (vs : List Value)
    (e : ∀ i, i < 73 → (if o ≤ i ∧ i < o + vs.length then vs[i - o]? else some (cellH v g n i)) = some (cellH v' g' n' i)) : HashSet w b v' g' n' (w.setCells b o vs) := by
  refine ⟨?_, setCells_chg w b o vs, setCells_size b vs o w⟩
  obtain ⟨C, h1, h2, h3⟩ := setCells_row b _ vs o w _ h
  rw [hashA_size] at h2
  unfold HashRow
  rw [h1, hashA_ext h2 (fun i hi => by
    rw [h3, ← e i hi]
    by_cases c : o ≤ i ∧ i < o + vs.length
    · rw [if_pos c, if_pos ⟨c.1, c.2, by rw [hashA_size]; exact hi⟩]
    · rw [if_neg c, if_neg (fun c2 => c ⟨c2.1, c2.2.1⟩), hashA_get _ _ _ hi])]
theorem HashRow.setState {w : World} {b : Nat} {v : W8} {g : Nat → BitVec 8} {n : Nat} (h : HashRow w b v g n) (v' : W8) : HashSet w b v' g n (w.setCells b 0 (wordsA v'.get 8).toList) := by
  refine h.setCells 0 _ (fun i hi => ?_)
  rw [Array.length_toList, wordsA_size]
  by_cases c : i < 8
  · rw [if_pos ⟨Nat.zero_le _, by omega⟩, Array.getElem?_toList, Nat.sub_zero, wordsA_get _ c]
    unfold cellH
    rw [if_pos c]
  · rw [if_neg (by omega)]
    unfold cellH
    rw [if_neg c, if_neg c]
/-- The first k values, as cells. -/
def cells8 (p : Nat → BitVec 8) (k : Nat) : List Value := (List.range k).map fun i => .int .u8 (n8 (p i))
theorem cells8_len (p : Nat → BitVec 8) (k : Nat) : (cells8 p k).length = k := by simp [cells8]
theorem cells8_get (p : Nat → BitVec 8) {k i : Nat} (h : i < k) : (cells8 p k)[i]? = some (.int .u8 (n8 (p i))) := by simp [cells8, h]
theorem cells8_one (p : Nat → BitVec 8) (k : Nat) : ∀ v ∈ cells8 p k, v.oneCell' = true := by
  intro v hv
  simp only [cells8, List.mem_map] at hv
  obtain ⟨i, _, rfl⟩ := hv
  rfl
/-- Bytes over others from place o on. -/
def over8 (g : Nat → BitVec 8) (o k : Nat) (p : Nat → BitVec 8) (i : Nat) : BitVec 8 := if o ≤ i ∧ i < o + k then p (i - o) else g i
theorem HashRow.setBytes {w : World} {b : Nat} {v : W8} {g : Nat → BitVec 8} {n : Nat} (h : HashRow w b v g n) (o k : Nat) (p : Nat → BitVec 8) (hk : o + k ≤ 64) : HashSet w b v (over8 g o k p) n (w.setCells b (8 + o) (cells8 p k)) := by
  refine h.setCells _ _ (fun i hi => ?_)
  rw [cells8_len]
  unfold cellH over8
  by_cases c : 8 + o ≤ i ∧ i < 8 + o + k
  · rw [if_pos c, cells8_get _ (by omega), if_neg (by omega), if_pos (by omega), if_pos (by omega), show i - 8 - o = i - (8 + o) by omega]
  · rw [if_neg c]
    by_cases c1 : i < 8
    · rw [if_pos c1, if_pos c1]
    · rw [if_neg c1, if_neg c1]
      by_cases c2 : i < 72
      · rw [if_pos c2, if_pos c2, if_neg (by omega)]
      · rw [if_neg c2, if_neg c2]
theorem HashRow.setLen {w : World} {b : Nat} {v : W8} {g : Nat → BitVec 8} {n : Nat} (h : HashRow w b v g n) (m : Nat) : HashSet w b v g m (w.setCell ⟨b, 72, none⟩ (.int .u64 (m : Int))) := by
  refine h.setCells 72 [.int .u64 (m : Int)] (fun i hi => ?_)
  unfold cellH
  by_cases c : i = 72
  · subst c; rfl
  · rw [if_neg (by simp; omega), if_pos (by omega : i < 72)]
    rw [if_pos (by omega : i < 72)]
/-- 'copy' into the block, from place o of it on. -/
theorem copy_block {w : World} {b : Nat} {v : W8} {g : Nat → BitVec 8} {n : Nat} (h : HashRow w b v g n) (o dLen dCap : Nat) (a : Option Addr) (sLen sCap k : Nat) (p : Nat → BitVec 8) (hk : k = Nat.min sLen dLen) (hok : o + k ≤ 64)
    (hx : BytesIn w a sLen p) : ∃ w', (Builtin.copy_ #[40, 40] 3 #[.slice (some ⟨b, 8 + o, none⟩) dLen dCap, .slice a sLen sCap]).run Tryd.prog w = .ok (goInt k) w' ∧ HashSet w b v (over8 g o k p) n w' := by
  have hu : Tryd.prog.underlying 40 = some (.slice 5) := by kernel_rfl
  have hs : (Tryd.prog.info? 5).map (·.size) = some 1 := by kernel_rfl
  refine ⟨_, ?_, h.setBytes o k p hok⟩
  by_cases k0 : k = 0
  · subst k0
    have := run_copy_none (P := Tryd.prog) w 40 40 3 5 (some ⟨b, 8 + o, none⟩) a dLen dCap sLen sCap hu hs hk.symm
    rw [this]; rfl
  · rcases hx.2 with h0 | ⟨bb, bo, rfl, hbb, hc⟩
    · exact absurd (by rw [hk, h0]; exact Nat.zero_min _) k0
    · have hks : k ≤ sLen := by rw [hk]; exact Nat.min_le_left _ _
      have := run_copy_cells (P := Tryd.prog) w 40 40 3 5 b (8 + o) dLen dCap ⟨bb, bo, none⟩ sLen sCap (cells8 p k) hu hs (by rw [cells8_len]; exact hk) (fun j x hj => by
        have hj' : j < k := by have := (List.getElem?_eq_some_iff.1 hj).1; rwa [cells8_len] at this
        rw [cells8_get _ hj'] at hj
        rw [Addr.add_mid, hc j (by omega)]; exact hj) (fun j hj => by rw [cells8_len] at hj; exact ((h.there (o := 8 + o) (k := k) (by omega)) j hj).1) (fun j hj => h.free _) (cells8_one p k)
      rw [cells8_len] at this
      exact this
end Go.Proofs.YtebhhonmpoeliaaDoor
