/-
  ROWS OF BOOLS, the document's bits of a block, and the bytes that its product tells.
-/
import Derived.Test.YtoocglckhphepaaGcmM
import Derived.Test.YtoocglckhphepaaRefF
namespace Go.Proofs.Ytoocglckhphepaa
open Go Go.RowKit Go.BigFrame
set_option maxRecDepth 100000
set_option linter.unusedSimpArgs false
def boolArr (f : Nat → Bool) (n : Nat) : Array Value := ((List.range n).map fun i => .bool (f i)).toArray
theorem boolArr_size (f : Nat → Bool) (n : Nat) : (boolArr f n).size = n := by simp [boolArr]
theorem boolArr_get (f : Nat → Bool) (n i : Nat) (h : i < n) : (boolArr f n)[i]? = some (.bool (f i)) := by simp [boolArr, h]
theorem boolArr_congr (f g : Nat → Bool) (n : Nat) (h : ∀ i, i < n → f i = g i) : boolArr f n = boolArr g n := by
  unfold boolArr
  congr 1
  exact List.map_congr_left (fun i hi => by rw [h i (List.mem_range.1 hi)])
theorem boolArr_one (f : Nat → Bool) (n : Nat) : (boolArr f n).all (·.oneCell') = true := by
  rw [Array.all_eq_true]
  intro i hi
  simp [boolArr]
  rfl
theorem boolArr_set (f : Nat → Bool) (n j : Nat) (x : Bool) : (boolArr f n).setIfInBounds j (.bool x) = boolArr (fun i => if i = j then x else f i) n := by
  apply Array.ext_getElem?
  intro i
  rw [Array.getElem?_setIfInBounds]
  by_cases hj : j = i
  · subst hj
    by_cases hn : j < n
    · rw [if_pos rfl, if_pos (by rw [boolArr_size]; exact hn), boolArr_get _ _ _ hn]
      simp
    · rw [if_pos rfl, if_neg (by rw [boolArr_size]; exact hn), Array.getElem?_eq_none (by rw [boolArr_size]; omega)]
  · rw [if_neg hj]
    by_cases hn : i < n
    · rw [boolArr_get _ _ _ hn, boolArr_get _ _ _ hn, if_neg (fun h => hj h.symm)]
    · rw [Array.getElem?_eq_none (by rw [boolArr_size]; omega), Array.getElem?_eq_none (by rw [boolArr_size]; omega)]
structure BRow (w0 : World) (q n : Nat) (T : TypeId) (f : Nat → Bool) (w : World) : Prop where
  row : w.heap[q]? = some (.cells (boolArr f n) T (0, 0))
  new : w0.heap.size ≤ q
theorem BRow.at {w0 w : World} {q n : Nat} {T : TypeId} {f : Nat → Bool} (h : BRow w0 q n T f w) (j : Nat) (hj : j < n) : w.cell? ⟨q, j, none⟩ = some (.bool (f j)) := by
  rw [cell_of_row _ _ _ _ _ _ h.row, boolArr_get _ _ _ hj]
theorem BRow.free {w0 w : World} {q n : Nat} {T : TypeId} {f : Nat → Bool} (h : BRow w0 q n T f w) (j : Nat) : w.frozen? ⟨q, j, none⟩ = false := frozen_of_row _ _ _ _ _ h.row
theorem BRow.set {w0 w : World} {q n : Nat} {T : TypeId} {f : Nat → Bool} (h : BRow w0 q n T f w) (j : Nat) (x : Bool) : BRow w0 q n T (fun i => if i = j then x else f i) (w.setCell ⟨q, j, none⟩ (.bool x)) :=
  ⟨by rw [heap_setCell_same _ _ _ _ _ _ h.row, boolArr_set], h.new⟩
theorem BRow.later {w0 w w1 : World} {q n : Nat} {T : TypeId} {f : Nat → Bool} (h : BRow w0 q n T f w) (hb : Below w.heap.size w w1) : BRow w0 q n T f w1 :=
  ⟨by rw [hb.block q (lt_of_heap h.row)]; exact h.row, h.new⟩
theorem zero_bools : (Try.prog.info? 49).map (·.zero) = some (some (.agg (boolArr (fun _ => false) 128))) := by kernel_rfl
theorem size_bools : (Try.prog.info? 49).map (·.size) = some 128 := by kernel_rfl
theorem under_bools : Try.prog.underlying 49 = some (.array 128 4) := by kernel_rfl
theorem size_boolArr (f : Nat → Bool) : (Try.prog.info? 49).map (·.size) = some (boolArr f 128).size := by rw [boolArr_size]; exact size_bools
/-- A text's bits: the highest of each byte first. -/
def bitS (f : Nat → BitVec 8) (i : Nat) : Bool := (f (i / 8)).getLsbD (7 - i % 8)
theorem bit_of (x : BitVec 8) (k : Nat) : (x.toNat / 2 ^ k % 2 == 1) = x.getLsbD k := by
  rw [BitVec.getLsbD, Nat.testBit, Nat.shiftRight_eq_div_pow]
  have : (1 &&& x.toNat / 2 ^ k) = x.toNat / 2 ^ k % 2 := by
    rw [Nat.and_comm, Nat.and_one_is_mod]
  rw [this]
  rcases Nat.mod_two_eq_zero_or_one (x.toNat / 2 ^ k) with h | h <;> rw [h] <;> rfl
theorem bit_int (x : BitVec 8) (k : Nat) : ((n8 x / 2 ^ k).tmod 2 == 1) = x.getLsbD k := by
  rw [← bit_of, n8_nat, show ((x.toNat : Int) / 2 ^ k) = ((x.toNat / 2 ^ k : Nat) : Int) by rw [Int.natCast_ediv, Int.natCast_pow]; rfl]
  generalize x.toNat / 2 ^ k = m
  rw [Int.tmod_eq_emod_of_nonneg (by omega)]
  rcases Nat.mod_two_eq_zero_or_one m with h | h
  · rw [h, show (m : Int) % 2 = 0 by omega]; rfl
  · rw [h, show (m : Int) % 2 = 1 by omega]; rfl
set_option maxHeartbeats 4000000 in
theorem bits_any (f : Nat → BitVec 8) (w : World) :
    Calls Try.prog 20 #[.string (strOf f 16)] w fun e w' => e = .returned (.agg (boolArr (bitS f) 128)) ∧ Below w.heap.size w w' := by
  have HX := Lib.hid (run_at_str f 16)
  generalize strOf f 16 = S at *
  go_enter Try.func20, Try.ntmps20
  go_wp2_with (first
    | (refine wpList_alloc_row (o := ⟨some 2, .alloc 49, _, _, _, _⟩) rfl 49 rfl (boolArr (fun _ => false) 128) zero_bools ?_)
    | (refine wpList_alloc_row (o := ⟨some 3, .alloc 49, _, _, _, _⟩) rfl 49 rfl (boolArr (fun _ => false) 128) zero_bools ?_))
  have r0 : ((w.alloc (.cells (boolArr (fun _ => false) 128) 49)).alloc (.cells (boolArr (fun _ => false) 128) 49)).heap[w.heap.size]? = some (.cells (boolArr (fun _ => false) 128) 49 (0, 0)) := by
    rw [((Below.refl _ (w.alloc _)).alloc (Nat.le_refl _) _).block _ (by simp)]
    exact heap_alloc_last _ _
  have r1 : ((w.alloc (.cells (boolArr (fun _ => false) 128) 49)).alloc (.cells (boolArr (fun _ => false) 128) 49)).heap[w.heap.size + 1]? = some (.cells (boolArr (fun _ => false) 128) 49 (0, 0)) := by
    have h := heap_alloc_last (w.alloc (.cells (boolArr (fun _ => false) 128) 49)) (.cells (boolArr (fun _ => false) 128) 49)
    simpa using h
  have hb : Below w.heap.size w ((w.alloc (.cells (boolArr (fun _ => false) 128) 49)).alloc (.cells (boolArr (fun _ => false) 128) 49)) := ((Below.refl w.heap.size w).alloc (Nat.le_refl _) _).alloc (by simp) _
  generalize World.alloc _ _ = wa at *
  generalize hp : w.heap.size = p at *
  have HP := Lib.hid hp
  clear hp
  go_loopw [4] (fun s4 wr => ∃ k : Nat, k ≤ 128 ∧ s4 = .int .i64 (k : Int) ∧ wr.heap[p]? = some (.cells (boolArr (fun _ => false) 128) 49 (0, 0)) ∧ wr.heap[p + 1]? = some (.cells (boolArr (fun j => if j < k then bitS f j else false) 128) 49 (0, 0)) ∧ Below p w wr)
    (fun s4 _ => 128 - (intOf s4).toNat)
  case atStart => exact ⟨0, by omega, rfl, r0, by simpa using r1, hb⟩
  case round =>
    clear r0 r1 hb
    obtain ⟨k, hk, rfl, r0, r1, hb⟩ := hrel
    by_cases hk128 : k < 128
    · have hkI : (k : Int) < 128 := by omega
      obtain ⟨d, r, rfl, hr, hd⟩ : ∃ d r, k = 8 * d + r ∧ r < 8 ∧ d < 16 := ⟨k / 8, k % 8, by omega, by omega, by omega⟩
      have x1 := HX.out d hd
      have e1 : (((8 * d + r : Nat) : Int)).tdiv 8 = (d : Int) := by rw [Int.tdiv_eq_ediv_of_nonneg (by omega)]; omega
      have e2 : (((8 * d + r : Nat) : Int)).tmod 8 = (r : Int) := by rw [Int.tmod_eq_emod_of_nonneg (by omega)]; omega
      have hbit : bitS f (8 * d + r) = (f d).getLsbD (7 - r) := by unfold bitS; rw [show (8 * d + r) / 8 = d by omega, show (8 * d + r) % 8 = r by omega]
      generalize hkk : 8 * d + r = k at *
      have c1 : wr.cell? ⟨p + 1, k, none⟩ = some (.bool false) := by
        rw [cell_of_row _ _ _ _ _ _ r1, boolArr_get _ _ _ hk128, if_neg (Nat.lt_irrefl _)]
      have z1 : wr.frozen? ⟨p + 1, k, none⟩ = false := frozen_of_row _ _ _ _ _ r1
      go_wp2_with fail
      go_roundw
      case rel =>
        refine ⟨k + 1, by omega, by go_num, ?_, ?_, hb.setCell (show p ≤ p + 1 by omega) _⟩
        · rw [heap_setCell_other _ _ _ _ (show p ≠ p + 1 by omega)]; exact r0
        · rw [heap_setCell_same _ _ _ _ _ _ r1, boolArr_set, bit_int, ← hbit]
          congr 2
          refine boolArr_congr _ _ _ (fun j hj => ?_)
          by_cases h : j = k
          · subst h; rw [if_pos rfl, if_pos (by omega)]
          · rw [if_neg h]
            by_cases h2 : j < k
            · rw [if_pos h2, if_pos (by omega)]
            · rw [if_neg h2, if_neg (by omega)]
      case measure => simp [intOf]; omega
    · obtain rfl : k = 128 := by omega
      have e : boolArr (fun j => if j < 128 then bitS f j else false) 128 = boolArr (bitS f) 128 := boolArr_congr _ _ _ (fun j hj => by rw [if_pos hj])
      rw [e] at r1
      go_wp2_with (first
        | (refine wpList_load_row (o := ⟨some 21, .load 49 _, _, _, _, _⟩) rfl 49 _ rfl (p + 1) rfl 49 (boolArr (bitS f) 128) (0, 0) _ r1 under_bools rfl (size_boolArr _) ?_)
        | (refine wpList_store_row rfl 49 _ _ rfl p 49 (boolArr (fun _ => false) 128) (boolArr (bitS f) 128) rfl rfl r0 (by rw [boolArr_size, boolArr_size]) (size_boolArr _) (boolArr_one _ _) ?_; intro w2 rs))
      exact ret_row p 49 49 _ rfl _ rfl rs.row under_bools rfl (size_boolArr _) rfl ⟨rfl, by rw [HP.out]; exact hb.trans (rs.below p (Nat.le_refl _))⟩
end Go.Proofs.Ytoocglckhphepaa
namespace Go.Proofs.Ytoocglckhphepaa
open Go Go.RowKit Go.BigFrame
set_option maxRecDepth 100000
set_option linter.unusedSimpArgs false
theorem wd8_bit (f : Nat → BitVec 8) (q r : Nat) (hq : q < 8) (hr : r < 8) : (wd8 f).getLsbD (63 - (8 * q + r)) = (f q).getLsbD (7 - r) := by
  unfold wd8
  have hz : ∀ (i k : Nat), 8 ≤ k → (f i).getLsbD k = false := fun i k h => BitVec.getLsbD_of_ge _ _ h
  rcases (by omega : q = 0 ∨ q = 1 ∨ q = 2 ∨ q = 3 ∨ q = 4 ∨ q = 5 ∨ q = 6 ∨ q = 7) with rfl | rfl | rfl | rfl | rfl | rfl | rfl | rfl <;>
  rcases (by omega : r = 0 ∨ r = 1 ∨ r = 2 ∨ r = 3 ∨ r = 4 ∨ r = 5 ∨ r = 6 ∨ r = 7) with rfl | rfl | rfl | rfl | rfl | rfl | rfl | rfl <;>
  simp [hz]
theorem of_bit (f : Nat → BitVec 8) (i : Nat) (hi : i < 128) : (W2.of f).poly.getLsbD i = bitS f i := by
  rw [poly_bit _ i hi]
  unfold bitS W2.of
  by_cases h : i < 64
  · rw [if_pos h]
    have := wd8_bit f (i / 8) (i % 8) (by omega) (by omega)
    rw [show 8 * (i / 8) + i % 8 = i by omega] at this
    exact this
  · rw [if_neg h]
    have := wd8_bit (fun j => f (8 + j)) (i / 8 - 8) (i % 8) (by omega) (by omega)
    rw [show 63 - (8 * (i / 8 - 8) + i % 8) = 127 - i by omega] at this
    rw [this, show 8 + (i / 8 - 8) = i / 8 by omega]
/-- A byte, by its bits, the highest first. -/
def sumP (p : Nat → Bool) (j : Nat) : Nat → BitVec 8
  | 0 => 0#8
  | b + 1 => if p (8 * j + b) then sumP p j b + 128#8 >>> b else sumP p j b
def outB (p : Nat → Bool) : Nat → Nat → BitVec 8
  | 0 => fun _ => 0#8
  | k + 1 => if p k then updb (outB p k) (k / 8) (outB p k (k / 8) + 128#8 >>> (k % 8)) else outB p k
theorem outB_sum (p : Nat → Bool) (k j : Nat) : outB p k j = sumP p j (min 8 (k - 8 * j)) := by
  induction k with
  | zero => simp [outB, sumP]
  | succ k ih =>
    rw [outB]
    by_cases hj : j = k / 8
    · have e : min 8 (k + 1 - 8 * j) = min 8 (k - 8 * j) + 1 := by omega
      have e2 : min 8 (k - 8 * j) = k % 8 := by omega
      rw [e, sumP, ← ih, e2, show 8 * j + k % 8 = k by omega]
      by_cases hp : p k
      · rw [if_pos hp, if_pos hp, updb, if_pos hj, ← hj]
      · rw [if_neg hp, if_neg hp]
    · have e : min 8 (k + 1 - 8 * j) = min 8 (k - 8 * j) := by omega
      rw [e, ← ih]
      by_cases hp : p k
      · rw [if_pos hp, updb, if_neg hj]
      · rw [if_neg hp]
theorem sum8 : ∀ b0 b1 b2 b3 b4 b5 b6 b7 : Bool, ∀ c : Fin 8,
    (let p : Nat → Bool := fun i => match i with | 0 => b0 | 1 => b1 | 2 => b2 | 3 => b3 | 4 => b4 | 5 => b5 | 6 => b6 | _ => b7; (sumP p 0 8).getLsbD c.1 = p (7 - c.1)) := by decide +kernel
theorem sumP_congr (p q : Nat → Bool) (j i : Nat) (k : Nat) (h : ∀ b, b < k → p (8 * j + b) = q (8 * i + b)) : sumP p j k = sumP q i k := by
  induction k with
  | zero => rfl
  | succ k ih => rw [sumP, sumP, ih (fun b hb => h b (by omega)), h k (by omega)]
theorem sumP_bit (p : Nat → Bool) (j c : Nat) (hc : c < 8) : (sumP p j 8).getLsbD c = p (8 * j + (7 - c)) := by
  have h := sum8 (p (8 * j)) (p (8 * j + 1)) (p (8 * j + 2)) (p (8 * j + 3)) (p (8 * j + 4)) (p (8 * j + 5)) (p (8 * j + 6)) (p (8 * j + 7)) ⟨c, hc⟩
  dsimp only at h
  rw [sumP_congr p _ j 0 8 (fun b hb => ?_), h]
  · rcases (by omega : c = 0 ∨ c = 1 ∨ c = 2 ∨ c = 3 ∨ c = 4 ∨ c = 5 ∨ c = 6 ∨ c = 7) with rfl | rfl | rfl | rfl | rfl | rfl | rfl | rfl <;> rfl
  · rcases (by omega : b = 0 ∨ b = 1 ∨ b = 2 ∨ b = 3 ∨ b = 4 ∨ b = 5 ∨ b = 6 ∨ b = 7) with rfl | rfl | rfl | rfl | rfl | rfl | rfl | rfl <;> rfl
theorem byte_bit (x : W2) (j c : Nat) (hj : j < 16) (hc : c < 8) : (x.byte j).getLsbD c = x.poly.getLsbD (8 * j + (7 - c)) := by
  rw [poly_bit _ _ (by omega)]
  unfold W2.byte
  by_cases h : j < 8
  · rw [if_pos h, if_pos (by omega), BitVec.getLsbD_setWidth, BitVec.getLsbD_ushiftRight, show 56 - 8 * j + c = 63 - (8 * j + (7 - c)) by omega]
    simp [hc]
  · rw [if_neg h, if_neg (by omega), BitVec.getLsbD_setWidth, BitVec.getLsbD_ushiftRight, show 56 - 8 * (j - 8) + c = 127 - (8 * j + (7 - c)) by omega]
    simp [hc]
theorem out_byte (x : W2) (p : Nat → Bool) (h : ∀ i, i < 128 → p i = x.poly.getLsbD i) (j : Nat) (hj : j < 16) : outB p 128 j = x.byte j := by
  rw [outB_sum, show min 8 (128 - 8 * j) = 8 by omega]
  apply BitVec.eq_of_getLsbD_eq
  intro c hc
  rw [sumP_bit _ _ _ hc, byte_bit _ _ _ hj hc, h _ (by omega)]
theorem tog_row {w : World} {q : Nat} {T : TypeId} {g : BitVec 256} (h : w.heap[q]? = some (.cells (boolArr g.getLsbD 256) T (0, 0))) (j : Nat) (hj : j < 256) (b : Bool) (hb : b = !g.getLsbD j) :
    (w.setCell ⟨q, j, none⟩ (.bool b)).heap[q]? = some (.cells (boolArr (g ^^^ 1#256 <<< j).getLsbD 256) T (0, 0)) := by
  rw [heap_setCell_same _ _ _ _ _ _ h, boolArr_set]
  congr 2
  refine boolArr_congr _ _ _ (fun i hi => ?_)
  rw [BitVec.getLsbD_xor, GF.one_bit _ _ hj]
  by_cases hij : i = j
  · subst hij; simp [hb]
  · simp [hij]
theorem red_bit (p : BitVec 256) (i : Nat) (hi : i < 128) : (GF.redN p 128).getLsbD i = (GF.redV p).getLsbD i := by
  unfold GF.redV
  rw [BitVec.getLsbD_setWidth]
  simp [hi]
end Go.Proofs.Ytoocglckhphepaa
