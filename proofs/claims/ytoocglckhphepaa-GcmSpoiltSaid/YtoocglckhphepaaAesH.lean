/-
  THE CALLS OF PACKAGE aes, EIGHTH PART: a block.
-/
import Derived.Test.YtoocglckhphepaaAesG
import Derived.Deep.Cut
namespace Go.Proofs.Ytoocglckhphepaa
open Go Go.RowKit Go.BigFrame
set_option maxRecDepth 100000
def zeros16 : Array Value := Array.replicate 16 (.int .u8 0)
theorem zero_16 : (Try.prog.info? 22).map (·.zero) = some (some (.agg zeros16)) := by kernel_rfl
theorem size_16 (b : Nat → BitVec 8) : (Try.prog.info? 22).map (·.size) = some (b16 b).size := by kernel_rfl
theorem b16_one (b : Nat → BitVec 8) : (b16 b).all (·.oneCell') = true := by kernel_rfl
/-- A cipher's words lie at p; not all are nought. -/
structure CipherAt (w : World) (p : Nat) (ks : Nat → BitVec 32) : Prop where
  key : ∀ i, i < 44 → w.cell? ⟨p, i, none⟩ = some (.int .u32 (n32 (ks i)))
  some_ : ∃ i, i < 44 ∧ ks i ≠ 0#32
  lt : p < w.heap.size
theorem CipherAt.later {w w1 : World} {p : Nat} {ks : Nat → BitVec 32} (h : CipherAt w p ks) (hb : Below w.heap.size w w1) : CipherAt w1 p ks :=
  ⟨fun i hi => by rw [hb.cell (p := ⟨p, i, none⟩) h.lt]; exact h.key i hi, h.some_, Nat.lt_of_lt_of_le h.lt hb.size⟩
set_option maxHeartbeats 1000000 in
theorem block_nil (a : Option Addr) (n c : Nat) (w : World) :
    Calls Try.prog 22 #[.pointer none, .slice a n c] w fun e w' => e = .returned (.tuple #[.slice none 0 0, .int .i64 1]) ∧ w = w' := by
  go_enter Try.func22, Try.ntmps22
  go_wp2_with (go_at_call 34; refine (ready_nil _).mono ?_; rintro e w' ⟨rfl, rfl⟩)
  go_ret2
  exact ⟨rfl, rfl⟩
set_option maxHeartbeats 1000000 in
theorem block_bad (ks : Nat → BitVec 32) (p : Nat) (a : Option Addr) (n c : Nat) (w : World) (hc : CipherAt w p ks) (hn : n ≠ 16) :
    Calls Try.prog 22 #[.pointer (some ⟨p, 0, none⟩), .slice a n c] w fun e w' => e = .returned (.tuple #[.slice none 0 0, .int .i64 1]) ∧ w = w' := by
  have h1 : ((n : Int) != 16) = true := by rw [bne_iff_ne]; omega
  have h2 : ((n : Int) == 16) = false := beq_eq_false_iff_ne.2 (by omega)
  go_enter Try.func22, Try.ntmps22
  go_wp2_with (go_at_call 34; refine (ready_yes ks p _ hc.key hc.some_).mono ?_; rintro e w' ⟨rfl, rfl⟩)
  go_ret2
  exact ⟨rfl, rfl⟩
/-- Sixteen new bytes at block r. -/
structure Fresh16 (w0 : World) (r : Nat) (b : Nat → BitVec 8) (w : World) : Prop where
  below : Below w0.heap.size w0 w
  new : w0.heap.size ≤ r
  row : w.heap[r]? = some (.cells (b16 b) 22 (0, 0))
set_option maxHeartbeats 4000000 in
set_option maxRecDepth 100000 in
theorem block_ok (ks : Nat → BitVec 32) (b : Nat → BitVec 8) (p kb ko c : Nat) (w : World) (hc : CipherAt w p ks)
    (hb : ∀ i, i < 16 → w.cell? ⟨kb, ko + i, none⟩ = some (.int .u8 (n8 (b i)))) (hkb : kb < w.heap.size) :
    Calls Try.prog 22 #[.pointer (some ⟨p, 0, none⟩), .slice (some ⟨kb, ko, none⟩) 16 c] w
      fun e w' => ∃ r, e = .returned (.tuple #[.slice (some ⟨r, 0, none⟩) 16 16, .int .i64 0]) ∧ Fresh16 w r (W4.byte (turned sbox ks (W4.of b))) w' := by
  have c0 : w.cell? ⟨kb, ko, none⟩ = some (.int .u8 (n8 (b 0))) := hb 0 (by omega)
  have Hb := Lib.hid hb
  have C0 := Lib.hid c0
  clear hb c0
  go_enter Try.func22, Try.ntmps22
  go_upto_region 4 with (first
    | (go_at_call 34; refine (ready_yes ks p _ hc.key hc.some_).mono ?_; rintro e w' ⟨rfl, rfl⟩)
    | (go_at_call 30; refine (substitutes_any _).mono ?_; rintro e w1 ⟨rfl, hb1⟩)
    | (refine wpList_alloc_row (o := ⟨some 6, .alloc 74, _, _, _, _⟩) rfl 74 rfl zeros256 zero_256 ?_)
    | (refine wpList_store_new (o := ⟨none, .store 74 (.tmp 6) (.tmp 16), _, _, _, _⟩) rfl 74 _ _ rfl zeros256 sboxCells _ rfl rfl rfl size_256 (by kernel_rfl) sboxCells_one ?_))
  simp only [Act.put, List.setIfInBounds_toArray, List.set_cons_succ, List.set_cons_zero]
  have hbw : Below w.heap.size w (w1.alloc (.cells sboxCells 74)) := hb1.alloc hb1.size _
  have hbox : (w1.alloc (.cells sboxCells 74)).heap[w1.heap.size]? = some (.cells sboxCells 74 (0, 0)) := heap_alloc_last _ _
  generalize hq : w1.heap.size = q at *
  generalize hW : w1.alloc _ = wa at *
  clear hq hW hb1
  have hca := hc.later hbw
  have facts : ∀ i, i < 16 → wa.cell? ⟨kb, ko + i, none⟩ = some (.int .u8 (n8 (b i))) := fun i hi => by rw [hbw.cell (p := ⟨kb, ko + i, none⟩) hkb]; exact Hb.out i hi
  have c0 : wa.cell? ⟨kb, ko, none⟩ = some (.int .u8 (n8 (b 0))) := facts 0 (by omega)
  go_wp2_with fail
  refine (wordsOf_any b wa).mono ?_
  rintro e w2 ⟨rfl, hb2⟩
  clear facts c0
  unfold W4.val
  go_wp2_with fail
  refine (turn_any sbox ks p q _ _ _ _ w2 (fun i hi => ?_) (hca.later hb2).key (Nat.lt_of_lt_of_le (lt_of_heap hbox) hb2.size) (hca.later hb2).lt).mono ?_
  · rw [hb2.cell (p := ⟨q, i, none⟩) (lt_of_heap hbox), cell_of_row _ _ _ _ _ _ hbox]
    exact sboxCells_get i hi
  rintro e w3 ⟨rfl, hb3⟩
  unfold W4.val
  go_wp2_with fail
  refine (bytesOf_any _ _ _ _ w3).mono ?_
  rintro e w4 ⟨rfl, hb4⟩
  go_wp2_with (first
    | (refine wpList_alloc_row (o := ⟨some 7, .alloc 22, _, _, _, _⟩) rfl 22 rfl zeros16 zero_16 ?_)
    | (refine wpList_store_new (o := ⟨none, .store 22 (.tmp 7) (.tmp 23), _, _, _, _⟩) rfl 22 _ _ rfl zeros16 (b16 _) _ rfl rfl rfl (size_16 _) rfl (b16_one _) ?_))
  go_ret2
  have h4 := ((hbw.trans (hb2.mono hbw.size)).trans (hb3.mono (Nat.le_trans hbw.size hb2.size))).trans (hb4.mono (Nat.le_trans (Nat.le_trans hbw.size hb2.size) hb3.size))
  exact ⟨w4.heap.size, rfl, h4.alloc h4.size _, h4.size, heap_alloc_last _ _⟩
end Go.Proofs.Ytoocglckhphepaa
