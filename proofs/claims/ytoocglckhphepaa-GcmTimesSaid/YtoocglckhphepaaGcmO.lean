/-
  ROWS OF BOOLS, and the document's bits of a block.
-/
import Derived.Test.YtoocglckhphepaaGcmN
import Derived.Test.YtoocglckhphepaaRefF
namespace Go.Proofs.Ytoocglckhphepaa
open Go Go.RowKit Go.BigFrame
set_option maxRecDepth 100000
set_option linter.unusedSimpArgs false
def boolArr (f : Nat → Bool) (n : Nat) : Array Value := ((List.range n).map fun i => .bool (f i)).toArray
theorem boolArr_size (f : Nat → Bool) (n : Nat) : (boolArr f n).size = n := by simp [boolArr]
theorem boolArr_get (f : Nat → Bool) (n i : Nat) (h : i < n) : (boolArr f n)[i]? = some (.bool (f i)) := by simp [boolArr, h]
theorem boolArr_congr (f g : Nat → Bool) (n : Nat) (h : ∀ i, i < n → f i = g i) : boolArr f n = boolArr g n := by
  unfold boolArr
  congr 1
  exact List.map_congr_left (fun i hi => by rw [h i (List.mem_range.1 hi)])
theorem boolArr_one (f : Nat → Bool) (n : Nat) : (boolArr f n).all (·.oneCell') = true := by
  rw [Array.all_eq_true]
  intro i hi
  simp [boolArr]
  rfl
theorem boolArr_set (f : Nat → Bool) (n j : Nat) (x : Bool) : (boolArr f n).setIfInBounds j (.bool x) = boolArr (fun i => if i = j then x else f i) n := by
  apply Array.ext_getElem?
  intro i
  rw [Array.getElem?_setIfInBounds]
  by_cases hj : j = i
  · subst hj
    by_cases hn : j < n
    · rw [if_pos rfl, if_pos (by rw [boolArr_size]; exact hn), boolArr_get _ _ _ hn]
      simp
    · rw [if_pos rfl, if_neg (by rw [boolArr_size]; exact hn), Array.getElem?_eq_none (by rw [boolArr_size]; omega)]
  · rw [if_neg hj]
    by_cases hn : i < n
    · rw [boolArr_get _ _ _ hn, boolArr_get _ _ _ hn, if_neg (fun h => hj h.symm)]
    · rw [Array.getElem?_eq_none (by rw [boolArr_size]; omega), Array.getElem?_eq_none (by rw [boolArr_size]; omega)]
structure BRow (w0 : World) (q n : Nat) (T : TypeId) (f : Nat → Bool) (w : World) : Prop where
  row : w.heap[q]? = some (.cells (boolArr f n) T (0, 0))
  new : w0.heap.size ≤ q
theorem BRow.at {w0 w : World} {q n : Nat} {T : TypeId} {f : Nat → Bool} (h : BRow w0 q n T f w) (j : Nat) (hj : j < n) : w.cell? ⟨q, j, none⟩ = some (.bool (f j)) := by
  rw [cell_of_row _ _ _ _ _ _ h.row, boolArr_get _ _ _ hj]
theorem BRow.free {w0 w : World} {q n : Nat} {T : TypeId} {f : Nat → Bool} (h : BRow w0 q n T f w) (j : Nat) : w.frozen? ⟨q, j, none⟩ = false := frozen_of_row _ _ _ _ _ h.row
theorem BRow.set {w0 w : World} {q n : Nat} {T : TypeId} {f : Nat → Bool} (h : BRow w0 q n T f w) (j : Nat) (x : Bool) : BRow w0 q n T (fun i => if i = j then x else f i) (w.setCell ⟨q, j, none⟩ (.bool x)) :=
  ⟨by rw [heap_setCell_same _ _ _ _ _ _ h.row, boolArr_set], h.new⟩
theorem BRow.later {w0 w w1 : World} {q n : Nat} {T : TypeId} {f : Nat → Bool} (h : BRow w0 q n T f w) (hb : Below w.heap.size w w1) : BRow w0 q n T f w1 :=
  ⟨by rw [hb.block q (lt_of_heap h.row)]; exact h.row, h.new⟩
theorem zero_bools : (Try.prog.info? 49).map (·.zero) = some (some (.agg (boolArr (fun _ => false) 128))) := by kernel_rfl
theorem size_bools : (Try.prog.info? 49).map (·.size) = some 128 := by kernel_rfl
theorem under_bools : Try.prog.underlying 49 = some (.array 128 4) := by kernel_rfl
theorem size_boolArr (f : Nat → Bool) : (Try.prog.info? 49).map (·.size) = some (boolArr f 128).size := by rw [boolArr_size]; exact size_bools
/-- A text's bits: the highest of each byte first. -/
def bitS (f : Nat → BitVec 8) (i : Nat) : Bool := (f (i / 8)).getLsbD (7 - i % 8)
theorem bit_of (x : BitVec 8) (k : Nat) : (x.toNat / 2 ^ k % 2 == 1) = x.getLsbD k := by
  rw [BitVec.getLsbD, Nat.testBit, Nat.shiftRight_eq_div_pow]
  have : (1 &&& x.toNat / 2 ^ k) = x.toNat / 2 ^ k % 2 := by
    rw [Nat.and_comm, Nat.and_one_is_mod]
  rw [this]
  rcases Nat.mod_two_eq_zero_or_one (x.toNat / 2 ^ k) with h | h <;> rw [h] <;> rfl
theorem bit_int (x : BitVec 8) (k : Nat) : ((n8 x / 2 ^ k).tmod 2 == 1) = x.getLsbD k := by
  rw [← bit_of, n8_nat, show ((x.toNat : Int) / 2 ^ k) = ((x.toNat / 2 ^ k : Nat) : Int) by rw [Int.natCast_ediv, Int.natCast_pow]; rfl]
  generalize x.toNat / 2 ^ k = m
  rw [Int.tmod_eq_emod_of_nonneg (by omega)]
  rcases Nat.mod_two_eq_zero_or_one m with h | h
  · rw [h, show (m : Int) % 2 = 0 by omega]; rfl
  · rw [h, show (m : Int) % 2 = 1 by omega]; rfl
set_option maxHeartbeats 4000000 in
theorem bits_any (f : Nat → BitVec 8) (w : World) :
    Calls Try.prog 20 #[.string (strOf f 16)] w fun e w' => e = .returned (.agg (boolArr (bitS f) 128)) ∧ Below w.heap.size w w' := by
  have HX := Lib.hid (run_at_str f 16)
  generalize strOf f 16 = S at *
  go_enter Try.func20, Try.ntmps20
  go_wp2_with (first
    | (refine wpList_alloc_row (o := ⟨some 2, .alloc 49, _, _, _, _⟩) rfl 49 rfl (boolArr (fun _ => false) 128) zero_bools ?_)
    | (refine wpList_alloc_row (o := ⟨some 3, .alloc 49, _, _, _, _⟩) rfl 49 rfl (boolArr (fun _ => false) 128) zero_bools ?_))
  have r0 : ((w.alloc (.cells (boolArr (fun _ => false) 128) 49)).alloc (.cells (boolArr (fun _ => false) 128) 49)).heap[w.heap.size]? = some (.cells (boolArr (fun _ => false) 128) 49 (0, 0)) := by
    rw [((Below.refl _ (w.alloc _)).alloc (Nat.le_refl _) _).block _ (by simp)]
    exact heap_alloc_last _ _
  have r1 : ((w.alloc (.cells (boolArr (fun _ => false) 128) 49)).alloc (.cells (boolArr (fun _ => false) 128) 49)).heap[w.heap.size + 1]? = some (.cells (boolArr (fun _ => false) 128) 49 (0, 0)) := by
    have h := heap_alloc_last (w.alloc (.cells (boolArr (fun _ => false) 128) 49)) (.cells (boolArr (fun _ => false) 128) 49)
    simpa using h
  have hb : Below w.heap.size w ((w.alloc (.cells (boolArr (fun _ => false) 128) 49)).alloc (.cells (boolArr (fun _ => false) 128) 49)) := ((Below.refl w.heap.size w).alloc (Nat.le_refl _) _).alloc (by simp) _
  generalize World.alloc _ _ = wa at *
  generalize hp : w.heap.size = p at *
  have HP := Lib.hid hp
  clear hp
  go_loopw [4] (fun s4 wr => ∃ k : Nat, k ≤ 128 ∧ s4 = .int .i64 (k : Int) ∧ wr.heap[p]? = some (.cells (boolArr (fun _ => false) 128) 49 (0, 0)) ∧ wr.heap[p + 1]? = some (.cells (boolArr (fun j => if j < k then bitS f j else false) 128) 49 (0, 0)) ∧ Below p w wr)
    (fun s4 _ => 128 - (intOf s4).toNat)
  case atStart => exact ⟨0, by omega, rfl, r0, by simpa using r1, hb⟩
  case round =>
    clear r0 r1 hb
    obtain ⟨k, hk, rfl, r0, r1, hb⟩ := hrel
    by_cases hk128 : k < 128
    · have hkI : (k : Int) < 128 := by omega
      obtain ⟨d, r, rfl, hr, hd⟩ : ∃ d r, k = 8 * d + r ∧ r < 8 ∧ d < 16 := ⟨k / 8, k % 8, by omega, by omega, by omega⟩
      have x1 := HX.out d hd
      have e1 : (((8 * d + r : Nat) : Int)).tdiv 8 = (d : Int) := by rw [Int.tdiv_eq_ediv_of_nonneg (by omega)]; omega
      have e2 : (((8 * d + r : Nat) : Int)).tmod 8 = (r : Int) := by rw [Int.tmod_eq_emod_of_nonneg (by omega)]; omega
      have hbit : bitS f (8 * d + r) = (f d).getLsbD (7 - r) := by unfold bitS; rw [show (8 * d + r) / 8 = d by omega, show (8 * d + r) % 8 = r by omega]
      generalize hkk : 8 * d + r = k at *
      have c1 : wr.cell? ⟨p + 1, k, none⟩ = some (.bool false) := by
        rw [cell_of_row _ _ _ _ _ _ r1, boolArr_get _ _ _ hk128, if_neg (Nat.lt_irrefl _)]
      have z1 : wr.frozen? ⟨p + 1, k, none⟩ = false := frozen_of_row _ _ _ _ _ r1
      go_wp2_with fail
      go_roundw
      case rel =>
        refine ⟨k + 1, by omega, by go_num, ?_, ?_, hb.setCell (show p ≤ p + 1 by omega) _⟩
        · rw [heap_setCell_other _ _ _ _ (show p ≠ p + 1 by omega)]; exact r0
        · rw [heap_setCell_same _ _ _ _ _ _ r1, boolArr_set, bit_int, ← hbit]
          congr 2
          refine boolArr_congr _ _ _ (fun j hj => ?_)
          by_cases h : j = k
          · subst h; rw [if_pos rfl, if_pos (by omega)]
          · rw [if_neg h]
            by_cases h2 : j < k
            · rw [if_pos h2, if_pos (by omega)]
            · rw [if_neg h2, if_neg (by omega)]
      case measure => simp [intOf]; omega
    · obtain rfl : k = 128 := by omega
      have e : boolArr (fun j => if j < 128 then bitS f j else false) 128 = boolArr (bitS f) 128 := boolArr_congr _ _ _ (fun j hj => by rw [if_pos hj])
      rw [e] at r1
      go_wp2_with (first
        | (refine wpList_load_row (o := ⟨some 21, .load 49 _, _, _, _, _⟩) rfl 49 _ rfl (p + 1) rfl 49 (boolArr (bitS f) 128) (0, 0) _ r1 under_bools rfl (size_boolArr _) ?_)
        | (refine wpList_store_row rfl 49 _ _ rfl p 49 (boolArr (fun _ => false) 128) (boolArr (bitS f) 128) rfl rfl r0 (by rw [boolArr_size, boolArr_size]) (size_boolArr _) (boolArr_one _ _) ?_; intro w2 rs))
      exact ret_row p 49 49 _ rfl _ rfl rs.row under_bools rfl (size_boolArr _) rfl ⟨rfl, by rw [HP.out]; exact hb.trans (rs.below p (Nat.le_refl _))⟩
end Go.Proofs.Ytoocglckhphepaa
