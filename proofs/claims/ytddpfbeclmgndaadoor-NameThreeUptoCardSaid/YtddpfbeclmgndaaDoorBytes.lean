/-
  ROWS OF BYTES: as arrays of cells, made, written, owned, appended to.
-/
import Derived.Test.YtddpfbeclmgndaaDoorKit
import Derived.Test.YtddpfbeclmgndaaDoorStr
import Derived.Test.YtddpfbeclmgndaaDoorAppend
import Derived.Laws.Rows
import Derived.Laws.Tables
import Derived.Deep.WholeRow
namespace Go.Proofs.YtddpfbeclmgndaaDoor
open Go Go.RowKit
theorem lt_of_heap {w : World} {k : Nat} {o : Obj} (h : w.heap[k]? = some o) : k < w.heap.size := by
  rcases Nat.lt_or_ge k w.heap.size with h1 | h1
  · exact h1
  · rw [Array.getElem?_eq_none h1] at h; cases h
theorem n8_nat (x : BitVec 8) : n8 x = (x.toNat : Int) := by unfold n8; rfl
theorem n64_nat (x : BitVec 64) : n64 x = (x.toNat : Int) := by unfold n64; rfl
theorem ofInt_byte (k : Nat) : IntKind.u8.wrap (k : Int) = n8 (BitVec.ofNat 8 k) := by
  rw [n8_nat, BitVec.toNat_ofNat]
  simp [IntKind.wrap_u8]
def bytesArr (f : Nat → BitVec 8) (n : Nat) : Array Value := ((List.range n).map fun i => .int .u8 (n8 (f i))).toArray
theorem bytesArr_size (f : Nat → BitVec 8) (n : Nat) : (bytesArr f n).size = n := by simp [bytesArr]
theorem bytesArr_get (f : Nat → BitVec 8) (n i : Nat) (h : i < n) : (bytesArr f n)[i]? = some (.int .u8 (n8 (f i))) := by simp [bytesArr, h]
def updb (f : Nat → BitVec 8) (j : Nat) (x : BitVec 8) : Nat → BitVec 8 := fun i => if i = j then x else f i
theorem bytesArr_set (f : Nat → BitVec 8) (n j : Nat) (x : BitVec 8) : (bytesArr f n).setIfInBounds j (.int .u8 (n8 x)) = bytesArr (updb f j x) n := by
  apply Array.ext_getElem?
  intro i
  rw [Array.getElem?_setIfInBounds]
  by_cases hij : j = i
  · subst hij
    by_cases hi : j < n
    · simp [bytesArr, hi, updb]
    · simp [bytesArr, hi]
  · rw [if_neg hij]
    by_cases hi : i < n
    · have : ¬ i = j := fun h => hij h.symm
      simp [bytesArr, hi, updb, this]
    · simp [bytesArr, hi]
theorem bytesArr_congr (f g : Nat → BitVec 8) (n : Nat) (h : ∀ i, i < n → f i = g i) : bytesArr f n = bytesArr g n := by
  unfold bytesArr
  rw [List.map_congr_left (fun i hi => by rw [h i (List.mem_range.1 hi)])]
theorem zeros_bytes (n : Nat) : Array.replicate n (Value.int .u8 0) = bytesArr (fun _ => 0#8) n := by
  apply Array.ext_getElem?
  intro i
  by_cases hi : i < n
  · rw [bytesArr_get _ _ _ hi, n8_nat]
    simp [hi]
  · simp [bytesArr, hi]
theorem info_u8 : (Tryd.prog.info? 5).map (fun i => (i.zero, i.size, i.bytes)) = some (some (.int .u8 0), 1, 1) := by kernel_rfl
theorem under_bytes : Tryd.prog.underlying 29 = some (.slice 5) := by kernel_rfl
theorem info_u8' : ∃ i0, Tryd.prog.info? 5 = some i0 ∧ i0.zero = some (.int .u8 0) ∧ i0.size = 1 ∧ i0.bytes = 1 := by
  have h := info_u8
  cases hq : Tryd.prog.info? 5 with
  | none => simp [hq] at h
  | some i => exact ⟨i, rfl, by simpa [hq] using h⟩
theorem run_make_bytes (n : Nat) (hn : n ≤ 281474976710656) (w : World) :
    (Instr.makeSlice 29 (.int .i64 (n : Int)) (.int .i64 (n : Int))).run Tryd.prog w = .ok (.slice (some ⟨w.heap.size, 0, none⟩) n n) (w.alloc (.cells (bytesArr (fun _ => 0#8) n) 5)) := by
  obtain ⟨i, hq, hz, hs, hb⟩ := info_u8'
  have h := run_make (P := Tryd.prog) w 29 5 i _ (by kernel_rfl) hq hz .i64 .i64 (n : Int) (n : Int) (by omega) (by omega) (by rw [hb]; omega) (by omega)
  rw [h, hs]
  have e : madeCells (Value.int .u8 0).cells (((n : Nat) : Int).toNat * 1) = bytesArr (fun _ => 0#8) n := by
    unfold madeCells bytesArr
    apply Array.ext_getElem?
    intro j
    have z : n8 0#8 = 0 := by unfold n8; rfl
    by_cases hj : j < n
    · simp [hj, Value.cells, z, Nat.mod_one]
    · simp [hj]
  rw [e]
  simp
/-- The first k values. -/
def firsts (f : Nat → BitVec 8) (k : Nat) : List Value := (List.range k).map fun i => .int .u8 (n8 (f i))
theorem firsts_len (f : Nat → BitVec 8) (k : Nat) : (firsts f k).length = k := by simp [firsts]
theorem firsts_get (f : Nat → BitVec 8) (k i : Nat) (h : i < k) : (firsts f k)[i]? = some (.int .u8 (n8 (f i))) := by simp [firsts, h]
theorem firsts_snoc (f : Nat → BitVec 8) (k : Nat) : firsts f k ++ [.int .u8 (n8 (f k))] = firsts f (k + 1) := by
  unfold firsts
  rw [List.range_succ, List.map_append]
  rfl
theorem firsts_one (f : Nat → BitVec 8) (n : Nat) : ∀ u ∈ firsts f n, u.oneCell' = true := by
  intro u hu
  obtain ⟨j, _, rfl⟩ := List.mem_map.1 hu
  rfl
/-- Two rows, one behind the other. -/
def joinb (f : Nat → BitVec 8) (n : Nat) (g : Nat → BitVec 8) : Nat → BitVec 8 := fun i => if i < n then f i else g (i - n)
theorem firsts_append (f g : Nat → BitVec 8) (n m : Nat) : firsts f n ++ firsts g m = firsts (joinb f n g) (n + m) := by
  apply List.ext_getElem?
  intro i
  by_cases h : i < n
  · rw [List.getElem?_append_left (by rw [firsts_len]; exact h), firsts_get _ _ _ h, firsts_get _ _ _ (by omega)]
    simp [joinb, h]
  · rw [List.getElem?_append_right (by rw [firsts_len]; omega), firsts_len]
    by_cases h2 : i < n + m
    · rw [firsts_get _ _ _ (by omega), firsts_get _ _ _ h2]
      simp [joinb, h]
    · rw [List.getElem?_eq_none (by rw [firsts_len]; omega), List.getElem?_eq_none (by rw [firsts_len]; omega)]
theorem bytesArr_firsts (f : Nat → BitVec 8) (n : Nat) : (bytesArr f n).toList = firsts f n := by simp [bytesArr, firsts]
theorem firsts_congr {f g : Nat → BitVec 8} {n : Nat} (h : ∀ i, i < n → f i = g i) : firsts f n = firsts g n := by
  unfold firsts
  rw [List.map_congr_left (fun i hi => by rw [h i (List.mem_range.1 hi)])]
theorem own_slice {w : World} {B : Nat} {v : Value} {n : Nat} {f : Nat → BitVec 8} (hn : 0 < n) (h : w.ownsRow B 5 1 v n (firsts f n)) :
    ∃ g cap, v = .slice (some ⟨g, 0, none⟩) n cap ∧ n ≤ cap ∧ cap ≤ maxLen ∧ B ≤ g ∧ g < w.heap.size ∧ ∀ i, i < n → w.cell? ⟨g, i, none⟩ = some (.int .u8 (n8 (f i))) := by
  have h2 := h
  rcases h.2 with ⟨_, h0⟩ | ⟨g, cap, cur, rfl, hB, hg, hnc, hcm, _⟩
  · omega
  · refine ⟨g, cap, rfl, hnc, hcm, hB, lt_of_heap hg, fun i hi => ?_⟩
    have h1 := h2.cells (g := g) rfl i (.int .u8 (n8 (f i))) (firsts_get _ _ _ hi)
    have : ((⟨g, 0, none⟩ : Addr).add i) = ⟨g, i, none⟩ := by unfold Addr.add; split <;> simp_all
    rw [← this]; exact h1
/-- A row of bytes that the call itself made. -/
structure MyRow (w0 : World) (q n : Nat) (T : TypeId) (f : Nat → BitVec 8) (w : World) : Prop where
  below : Below w0.heap.size w0 w
  row : w.heap[q]? = some (.cells (bytesArr f n) T (0, 0))
  new : w0.heap.size ≤ q
theorem MyRow.lt {w0 w : World} {q n : Nat} {T : TypeId} {f : Nat → BitVec 8} (h : MyRow w0 q n T f w) : q < w.heap.size := lt_of_heap h.row
theorem MyRow.later {w0 w w1 : World} {q n : Nat} {T : TypeId} {f : Nat → BitVec 8} (h : MyRow w0 q n T f w) (hb : Below w.heap.size w w1) : MyRow w0 q n T f w1 :=
  ⟨h.below.trans (hb.mono h.below.size), by rw [hb.block _ (lt_of_heap h.row)]; exact h.row, h.new⟩
theorem MyRow.free {w0 w : World} {q n : Nat} {T : TypeId} {f : Nat → BitVec 8} (h : MyRow w0 q n T f w) (j : Nat) : w.frozen? ⟨q, j, none⟩ = false := frozen_of_row _ _ _ _ _ h.row
theorem MyRow.at {w0 w : World} {q n : Nat} {T : TypeId} {f : Nat → BitVec 8} (h : MyRow w0 q n T f w) (j : Nat) (hj : j < n) : w.cell? ⟨q, j, none⟩ = some (.int .u8 (n8 (f j))) := by
  rw [cell_of_row _ _ _ _ _ _ h.row]; exact bytesArr_get f n j hj
theorem MyRow.set {w0 w : World} {q n : Nat} {T : TypeId} {f : Nat → BitVec 8} (h : MyRow w0 q n T f w) (j : Nat) (y : BitVec 8) : MyRow w0 q n T (updb f j y) (w.setCell ⟨q, j, none⟩ (.int .u8 (n8 y))) :=
  ⟨h.below.setCell h.new _, by rw [heap_setCell_same _ _ _ _ _ _ h.row, bytesArr_set], h.new⟩
theorem MyRow.made {w0 w : World} (hb : Below w0.heap.size w0 w) (f : Nat → BitVec 8) (n : Nat) (T : TypeId) : MyRow w0 w.heap.size n T f (w.alloc (.cells (bytesArr f n) T)) :=
  ⟨hb.alloc hb.size _, heap_alloc_last _ _, hb.size⟩
/-- A []byte that lies at an address, of any make. -/
theorem bytesIn_cells {w : World} {b n : Nat} {f : Nat → BitVec 8} {T : TypeId} {fr : Nat × Nat} (h : w.heap[b]? = some (.cells (bytesArr f n) T fr)) (i : Nat) (hi : i < n) : w.cell? ⟨b, i, none⟩ = some (.int .u8 (n8 (f i))) := by
  rw [cell_of_row _ _ _ _ _ _ h]; exact bytesArr_get f n i hi
end Go.Proofs.YtddpfbeclmgndaaDoor
