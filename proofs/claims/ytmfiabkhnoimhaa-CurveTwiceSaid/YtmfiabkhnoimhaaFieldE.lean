/-
  THE CALLS OF PACKAGE field, FIFTH PART: Of, Bytes, and a number's bytes as a text.
-/
import Derived.Test.YtmfiabkhnoimhaaFieldC
import Derived.Test.YtmfiabkhnoimhaaStr
namespace Go.Proofs.Ytmfiabkhnoimhaa
open Go Go.RowKit Go.BigFrame
def b32 (f : Nat → BitVec 8) : Array Value := ((List.range 32).map fun i => .int .u8 (n8 (f i))).toArray
theorem b32_get (f : Nat → BitVec 8) (i : Nat) (h : i < 32) : (b32 f)[i]? = some (.int .u8 (n8 (f i))) := by simp [b32, h]
theorem b32_size (f : Nat → BitVec 8) : (b32 f).size = 32 := by simp [b32]
theorem b32_one (f : Nat → BitVec 8) : (b32 f).all (·.oneCell') = true := by
  rw [Array.all_eq_true_iff_forall_mem]
  intro v hv
  simp only [b32, List.mem_toArray, List.mem_map] at hv
  obtain ⟨i, _, rfl⟩ := hv
  rfl
theorem b32_set (f : Nat → BitVec 8) (j : Nat) (x : BitVec 8) : (b32 f).setIfInBounds j (.int .u8 (n8 x)) = b32 (fun i => if i = j then x else f i) := by
  apply Array.ext_getElem?
  intro i
  rw [Array.getElem?_setIfInBounds]
  by_cases hij : j = i
  · subst hij
    by_cases hi : j < 32
    · simp [b32, hi]
    · simp [b32, hi]
  · rw [if_neg hij]
    by_cases hi : i < 32
    · have : ¬ i = j := fun h => hij h.symm
      simp [b32, hi, this]
    · simp [b32, hi]
theorem b32_congr (f g : Nat → BitVec 8) (h : ∀ i, i < 32 → f i = g i) : b32 f = b32 g := by
  unfold b32
  congr 1
  refine List.map_congr_left (fun i hi => ?_)
  rw [h i (List.mem_range.1 hi)]
theorem shr_byte (W : BitVec 64) (s : Nat) : n64 W / 2 ^ s % 256 = n8 ((W >>> s).setWidth 8) := by
  have h1 : n64 W = (W.toNat : Int) := by unfold n64; rfl
  have h2 : ∀ b : BitVec 8, n8 b = (b.toNat : Int) := fun b => by unfold n8; rfl
  rw [h1, h2, BitVec.toNat_setWidth, BitVec.toNat_ushiftRight, Nat.shiftRight_eq_div_pow, show (2 : Int) ^ s = ((2 ^ s : Nat) : Int) from (Int.natCast_pow 2 s).symm]
  rfl
theorem b32_zero : b32 (fun _ => 0#8) = Array.replicate 32 (.int .u8 0) := by
  have z : n8 0#8 = 0 := by unfold n8; rfl
  apply Array.ext_getElem?
  intro i
  by_cases hi : i < 32
  · simp [b32, hi, z]
  · simp [b32, hi]
set_option maxHeartbeats 4000000 in
set_option maxRecDepth 100000 in
theorem bytesE_any (x : E5) (w : World) :
    Calls Try.prog 21 #[x.v] w fun e w' => e = .returned (.agg (b32 x.byte)) ∧ Below w.heap.size w w' := by
  have hfld : ∀ (a b c d e : Int) (w' : World), (Instr.field 40 (.agg #[.int .u64 a, .int .u64 b, .int .u64 c, .int .u64 d, .int .u64 e]) 0).run Try.prog w' = .ok (.agg #[.int .u64 a, .int .u64 b, .int .u64 c, .int .u64 d, .int .u64 e]) w' := fun _ _ _ _ _ _ => by kernel_rfl
  rw [E5.v_eq x]
  go_enter Try.func21, Try.ntmps21
  go_wp2_with fail
  refine (reduced_any ⟨x.a, x.b, x.c, x.d, x.e⟩ _).mono ?_
  rintro e w1 ⟨rfl, hb⟩
  generalize hz : E5.reduced _ = z
  have Hz := Lib.hid hz
  clear hz
  have hbel := (fin_below hb (B := w.heap.size) (w0 := w) (by simp; try omega) (by repeat (first | exact Below.refl _ _ | apply Below.drew | refine Below.alloc ?_ (by simp; try omega) _)))
  have hres : w1.heap[w.heap.size + 1]? = some (.cells (b32 fun _ => 0#8) 22 (0, 0)) := by rw [b32_zero]; exact below_row (k := w.heap.size + 1) hb (by simp) (rows_alloc w [_, _] 1)
  have hsz : w.heap.size + 2 ≤ w1.heap.size := by have := hb.size; simp at this; omega
  rw [E5.v_eq z]
  clear hb
  have Hsz := Lib.hid hsz
  clear hsz
  go_wp2_with fail
  have rows : ∀ c3 c4, ((((w1.alloc (.cells c3 38)).alloc (.cells c4 52)).alloc (.cells (b32 fun _ => 0#8) 22)).heap[w1.heap.size + 1]? = some (.cells c4 52 (0, 0))) ∧
      ((((w1.alloc (.cells c3 38)).alloc (.cells c4 52)).alloc (.cells (b32 fun _ => 0#8) 22)).heap[w1.heap.size + 1 + 1]? = some (.cells (b32 fun _ => 0#8) 22 (0, 0))) := fun c3 c4 =>
    ⟨rows_alloc w1 [_, _, _] 1, rows_alloc w1 [_, _, _] 2⟩
  rw [b32_zero] at rows hres
  obtain ⟨R4, R5⟩ := rows #[.int .u64 (n64 z.a), .int .u64 (n64 z.b), .int .u64 (n64 z.c), .int .u64 (n64 z.d), .int .u64 (n64 z.e)] #[.int .u64 (n64 (E5.wordOf z 0)), .int .u64 (n64 (E5.wordOf z 1)), .int .u64 (n64 (E5.wordOf z 2)), .int .u64 (n64 (E5.wordOf z 3))]
  clear rows
  have hb2 : Below w.heap.size w (((w1.alloc (.cells #[.int .u64 (n64 z.a), .int .u64 (n64 z.b), .int .u64 (n64 z.c), .int .u64 (n64 z.d), .int .u64 (n64 z.e)] 38)).alloc (.cells #[.int .u64 (n64 (E5.wordOf z 0)), .int .u64 (n64 (E5.wordOf z 1)), .int .u64 (n64 (E5.wordOf z 2)), .int .u64 (n64 (E5.wordOf z 3))] 52)).alloc (.cells (Array.replicate 32 (.int .u8 0)) 22)) := by
    have h0 := hbel.size
    exact ((hbel.alloc h0 _).alloc (by simp; omega) _).alloc (by simp; omega) _
  have hr2 : (((w1.alloc (.cells #[.int .u64 (n64 z.a), .int .u64 (n64 z.b), .int .u64 (n64 z.c), .int .u64 (n64 z.d), .int .u64 (n64 z.e)] 38)).alloc (.cells #[.int .u64 (n64 (E5.wordOf z 0)), .int .u64 (n64 (E5.wordOf z 1)), .int .u64 (n64 (E5.wordOf z 2)), .int .u64 (n64 (E5.wordOf z 3))] 52)).alloc (.cells (Array.replicate 32 (.int .u8 0)) 22)).heap[w.heap.size + 1]? = some (.cells (Array.replicate 32 (.int .u8 0)) 22 (0, 0)) := by
    have h0 := Hsz.out
    rw [Below.heap_alloc _ _ _ (by simp; omega), Below.heap_alloc _ _ _ (by simp; omega), Below.heap_alloc _ _ _ (by omega)]
    exact hres
  simp only [E5.wordOf, E5.w0, E5.w1, E5.w2, E5.w3] at R4 R5 hb2 hr2
  simp only [Array.replicate, List.replicate] at R5 hb2 hr2 R4
  have hne : w1.heap.size + 1 ≠ w1.heap.size + 1 + 1 ∧ w.heap.size + 1 ≠ w1.heap.size + 1 + 1 ∧ w.heap.size ≤ w1.heap.size + 1 := by have := Hsz.out; omega
  generalize hB : w1.heap.size + 1 = B at *
  generalize hW : ((w1.alloc _).alloc _).alloc _ = wa at *
  clear hW hB Hsz hbel hres hfld
  obtain ⟨hn1, hn2, hn3⟩ := hne
  have z8 : n8 0#8 = 0 := by unfold n8; rfl
  have st0 : wa.heap[B + 1]? = some (.cells (b32 fun _ => 0#8) 22 (0, 0)) := by rw [R5, b32_zero]; simp only [Array.replicate, List.replicate]
  have N1 := Lib.hid hn1; have N2 := Lib.hid hn2; have N3 := Lib.hid hn3
  clear R5 hn1 hn2 hn3
  have Z8 := Lib.hid z8
  clear z8
  go_loopw [38] (fun s wr => ∃ (k : Nat) (f : Nat → BitVec 8), k ≤ 32 ∧ s = .int .i64 (k : Int) ∧ (∀ i, i < k → f i = E5.byteR z i) ∧ wr.heap[B]? = wa.heap[B]? ∧ wr.heap[B + 1]? = some (.cells (b32 f) 22 (0, 0)) ∧ wr.heap[w.heap.size + 1]? = wa.heap[w.heap.size + 1]? ∧ Below w.heap.size w wr)
    (fun s _ => 32 - (intOf s).toNat)
  case atStart => exact ⟨0, _, by omega, rfl, fun i hi => by omega, rfl, st0, rfl, hb2⟩
  case round =>
    obtain ⟨k, f, hk, rfl, hf, q4, q5, qr, hbw⟩ := hrel
    clear st0 hb2
    rw [R4] at q4
    have F := Lib.hid hf
    clear hf
    by_cases hlt : k < 32
    · have hd : k / 8 < 4 := by omega
      have kc : wr.cell? ⟨B, k / 8, none⟩ = some (.int .u64 (n64 (E5.wordOf z (k / 8)))) := by
        rw [cell_of_row _ _ _ _ _ _ q4]
        have : k / 8 = 0 ∨ k / 8 = 1 ∨ k / 8 = 2 ∨ k / 8 = 3 := by omega
        rcases this with h | h | h | h <;> rw [h] <;> rfl
      have ko : wr.cell? ⟨B + 1, k, none⟩ = some (.int .u8 (n8 (f k))) := by rw [cell_of_row _ _ _ _ _ _ q5]; exact b32_get f k hlt
      have kf : wr.frozen? ⟨B + 1, k, none⟩ = false := frozen_of_row _ _ _ _ _ q5
      go_wp2_with fail
      go_roundw
      case rel =>
        rw [shr_byte]
        refine ⟨k + 1, fun i => if i = k then E5.byteR z k else f i, by omega, by go_num, fun i hi => ?_, ?_, ?_, ?_, ?_⟩
        · show (if i = k then E5.byteR z k else f i) = _
          by_cases h : i = k
          · rw [if_pos h, h]
          · rw [if_neg h]; exact F.out i (by omega)
        · rw [heap_setCell_other _ _ _ _ N1.out, q4, R4]
        · rw [heap_setCell_same _ _ _ _ _ _ q5, b32_set]; rfl
        · rw [heap_setCell_other _ _ _ _ N2.out, qr]
        · exact hbw.setCell (Nat.le_succ_of_le N3.out) _
      case measure => simp [intOf]; omega
    · obtain rfl : k = 32 := by omega
      have hbyte : f = fun i => f i := rfl
      go_wp2_with (first
        | (refine wpList_load_row rfl 22 _ rfl (B + 1) rfl _ _ (0, 0) _ q5 Try.underlying22 rfl (by rw [b32_size]; kernel_rfl) ?_)
        | (refine wpList_store_row rfl 22 _ _ rfl (w.heap.size + 1) _ _ _ rfl rfl (qr.trans hr2) (by rw [b32_size]; rfl) (by rw [b32_size]; kernel_rfl) (b32_one f) ?_; intro w2 hs2))
      have e : b32 f = b32 x.byte := b32_congr _ _ (fun i hi => by rw [F.out i hi, ← Hz.out]; rfl)
      rw [e] at hs2
      exact ret_row (w.heap.size + 1) _ 22 (b32 x.byte) rfl _ rfl hs2.row Try.underlying22 rfl (by rw [b32_size]; kernel_rfl) rfl ⟨rfl, hbw.trans (hs2.below _ (by omega))⟩
end Go.Proofs.Ytmfiabkhnoimhaa
