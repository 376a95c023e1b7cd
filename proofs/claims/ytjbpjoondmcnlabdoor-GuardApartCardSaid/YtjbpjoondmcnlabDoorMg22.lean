/-
  TEXTS PUT TOGETHER: AesH, AesI, AesN, GcmD.
-/
import Derived.Test.YtjbpjoondmcnlabDoorMg21
import Derived.Deep.Cut
import Derived.Test.YtjbpjoondmcnlabDoorMg04
import Derived.Test.YtjbpjoondmcnlabDoorGcmC
import Derived.Test.YtjbpjoondmcnlabDoorMg01
set_option maxRecDepth 100000
/-
  THE CALLS OF PACKAGE aes, EIGHTH PART: a block.
-/
namespace Go.Proofs.YtjbpjoondmcnlabDoor
open Go Go.RowKit Go.BigFrame
set_option maxRecDepth 100000
def zeros16 : Array Value := Array.replicate 16 (.int .u8 0)
theorem zero_16 : (Tryd.prog.info? 93).map (·.zero) = some (some (.agg zeros16)) := by kernel_rfl
theorem size_16 (b : Nat → BitVec 8) : (Tryd.prog.info? 93).map (·.size) = some (b16 b).size := by kernel_rfl
theorem b16_one (b : Nat → BitVec 8) : (b16 b).all (·.oneCell') = true := by kernel_rfl
/-- A cipher's words lie at p; not all are nought. -/
structure CipherAt (w : World) (p : Nat) (ks : Nat → BitVec 32) : Prop where
  key : ∀ i, i < 44 → w.cell? ⟨p, i, none⟩ = some (.int .u32 (n32 (ks i)))
  some_ : ∃ i, i < 44 ∧ ks i ≠ 0#32
  lt : p < w.heap.size
theorem CipherAt.later {w w1 : World} {p : Nat} {ks : Nat → BitVec 32} (h : CipherAt w p ks) (hb : Below w.heap.size w w1) : CipherAt w1 p ks :=
  ⟨fun i hi => by rw [hb.cell (p := ⟨p, i, none⟩) h.lt]; exact h.key i hi, h.some_, Nat.lt_of_lt_of_le h.lt hb.size⟩
set_option maxHeartbeats 1000000 in
theorem block_nil (a : Option Addr) (n c : Nat) (w : World) :
    Calls Tryd.prog 48 #[.pointer none, .slice a n c] w fun e w' => e = .returned (.tuple #[.slice none 0 0, .int .i64 1]) ∧ w = w' := by
  go_enter Tryd.func48, Tryd.ntmps48
  go_wp2_with (go_at_call 69; refine (ready_nil _).mono ?_; rintro e w' ⟨rfl, rfl⟩)
  go_ret2
  exact ⟨rfl, rfl⟩
set_option maxHeartbeats 1000000 in
theorem block_bad (ks : Nat → BitVec 32) (p : Nat) (a : Option Addr) (n c : Nat) (w : World) (hc : CipherAt w p ks) (hn : n ≠ 16) :
    Calls Tryd.prog 48 #[.pointer (some ⟨p, 0, none⟩), .slice a n c] w fun e w' => e = .returned (.tuple #[.slice none 0 0, .int .i64 1]) ∧ w = w' := by
  have h1 : ((n : Int) != 16) = true := by rw [bne_iff_ne]; omega
  have h2 : ((n : Int) == 16) = false := beq_eq_false_iff_ne.2 (by omega)
  go_enter Tryd.func48, Tryd.ntmps48
  go_wp2_with (go_at_call 69; refine (ready_yes ks p _ hc.key hc.some_).mono ?_; rintro e w' ⟨rfl, rfl⟩)
  go_ret2
  exact ⟨rfl, rfl⟩
/-- Sixteen new bytes at block r. -/
structure Fresh16 (w0 : World) (r : Nat) (b : Nat → BitVec 8) (w : World) : Prop where
  below : Below w0.heap.size w0 w
  new : w0.heap.size ≤ r
  row : w.heap[r]? = some (.cells (b16 b) 93 (0, 0))
set_option maxHeartbeats 4000000 in
set_option maxRecDepth 100000 in
theorem block_ok (ks : Nat → BitVec 32) (b : Nat → BitVec 8) (p kb ko c : Nat) (w : World) (hc : CipherAt w p ks)
    (hb : ∀ i, i < 16 → w.cell? ⟨kb, ko + i, none⟩ = some (.int .u8 (n8 (b i)))) (hkb : kb < w.heap.size) :
    Calls Tryd.prog 48 #[.pointer (some ⟨p, 0, none⟩), .slice (some ⟨kb, ko, none⟩) 16 c] w
      fun e w' => ∃ r, e = .returned (.tuple #[.slice (some ⟨r, 0, none⟩) 16 16, .int .i64 0]) ∧ Fresh16 w r (W4.byte (turned sbox ks (W4.of b))) w' := by
  have c0 : w.cell? ⟨kb, ko, none⟩ = some (.int .u8 (n8 (b 0))) := hb 0 (by omega)
  have Hb := Lib.hid hb
  have C0 := Lib.hid c0
  clear hb c0
  go_enter Tryd.func48, Tryd.ntmps48
  go_upto_region 4 with (first
    | (go_at_call 69; refine (ready_yes ks p _ hc.key hc.some_).mono ?_; rintro e w' ⟨rfl, rfl⟩)
    | (go_at_call 65; refine (substitutes_any _).mono ?_; rintro e w1 ⟨rfl, hb1⟩)
    | (refine wpList_alloc_row (o := ⟨some 6, .alloc 106, _, _, _, _⟩) rfl 106 rfl zeros256 zero_256 ?_)
    | (refine wpList_store_new (o := ⟨none, .store 106 (.tmp 6) (.tmp 16), _, _, _, _⟩) rfl 106 _ _ rfl zeros256 sboxCells _ rfl rfl rfl size_256 (by kernel_rfl) sboxCells_one ?_))
  simp only [Act.put, List.setIfInBounds_toArray, List.set_cons_succ, List.set_cons_zero]
  have hbw : Below w.heap.size w (w1.alloc (.cells sboxCells 106)) := hb1.alloc hb1.size _
  have hbox : (w1.alloc (.cells sboxCells 106)).heap[w1.heap.size]? = some (.cells sboxCells 106 (0, 0)) := heap_alloc_last _ _
  generalize hq : w1.heap.size = q at *
  generalize hW : w1.alloc _ = wa at *
  clear hq hW hb1
  have hca := hc.later hbw
  have facts : ∀ i, i < 16 → wa.cell? ⟨kb, ko + i, none⟩ = some (.int .u8 (n8 (b i))) := fun i hi => by rw [hbw.cell (p := ⟨kb, ko + i, none⟩) hkb]; exact Hb.out i hi
  have c0 : wa.cell? ⟨kb, ko, none⟩ = some (.int .u8 (n8 (b 0))) := facts 0 (by omega)
  go_wp2_with fail
  refine (wordsOf_any b wa).mono ?_
  rintro e w2 ⟨rfl, hb2⟩
  clear facts c0
  unfold W4.val
  go_wp2_with fail
  refine (turnA_any sbox ks p q _ _ _ _ w2 (fun i hi => ?_) (hca.later hb2).key (Nat.lt_of_lt_of_le (lt_of_heap hbox) hb2.size) (hca.later hb2).lt).mono ?_
  · rw [hb2.cell (p := ⟨q, i, none⟩) (lt_of_heap hbox), cell_of_row _ _ _ _ _ _ hbox]
    exact sboxCells_get i hi
  rintro e w3 ⟨rfl, hb3⟩
  unfold W4.val
  go_wp2_with fail
  refine (bytesOf_any _ _ _ _ w3).mono ?_
  rintro e w4 ⟨rfl, hb4⟩
  go_wp2_with (first
    | (refine wpList_alloc_row (o := ⟨some 7, .alloc 93, _, _, _, _⟩) rfl 93 rfl zeros16 zero_16 ?_)
    | (refine wpList_store_new (o := ⟨none, .store 93 (.tmp 7) (.tmp 23), _, _, _, _⟩) rfl 93 _ _ rfl zeros16 (b16 _) _ rfl rfl rfl (size_16 _) rfl (b16_one _) ?_))
  go_ret2
  have h4 := ((hbw.trans (hb2.mono hbw.size)).trans (hb3.mono (Nat.le_trans hbw.size hb2.size))).trans (hb4.mono (Nat.le_trans (Nat.le_trans hbw.size hb2.size) hb3.size))
  exact ⟨w4.heap.size, rfl, h4.alloc h4.size _, h4.size, heap_alloc_last _ _⟩
end Go.Proofs.YtjbpjoondmcnlabDoor
/-
  THE CALLS OF PACKAGE aes, NINTH PART: a stream.
-/
namespace Go.Proofs.YtjbpjoondmcnlabDoor
open Go Go.RowKit Go.BigFrame
set_option maxRecDepth 100000
/-- To add to a counter: its last word alone. -/
def W4.plus (x : W4) (n : Nat) : W4 := ⟨x.a, x.b, x.c, x.d + BitVec.ofNat 32 n⟩
/-- The stream's byte j. -/
def strm (ks : Nat → BitVec 32) (x : W4) (j : Nat) : BitVec 8 := (turned sbox ks (x.plus (j / 16))).byte (j % 16)
theorem b16_get (b : Nat → BitVec 8) (i : Nat) (h : i < 16) : (b16 b)[i]? = some (.int .u8 (n8 (b i))) := by
  match i, h with
  | 0, _ => rfl
  | 1, _ => rfl
  | 2, _ => rfl
  | 3, _ => rfl
  | 4, _ => rfl
  | 5, _ => rfl
  | 6, _ => rfl
  | 7, _ => rfl
  | 8, _ => rfl
  | 9, _ => rfl
  | 10, _ => rfl
  | 11, _ => rfl
  | 12, _ => rfl
  | 13, _ => rfl
  | 14, _ => rfl
  | 15, _ => rfl
  | n + 16, h => omega
structure StrSt (w0 : World) (q m r : Nat) (x : W4) (f : Nat → BitVec 8) (n : Nat) (w : World) : Prop where
  below : Below w0.heap.size w0 w
  box : w.heap[q]? = some (.cells sboxCells 106 (0, 0))
  nxt : w.heap[m]? = some (.cells (w4c x) 116 (0, 0))
  out : w.heap[r]? = some (.cells (bytesArr f n) 5 (0, 0))
  q0 : w0.heap.size ≤ q
  m0 : w0.heap.size ≤ m
  r0 : w0.heap.size ≤ r
  qm : q ≠ m
  qr : q ≠ r
  mr : m ≠ r
theorem StrSt.later {w0 w w1 : World} {q m r n : Nat} {x : W4} {f : Nat → BitVec 8} (h : StrSt w0 q m r x f n w) (hb : Below w.heap.size w w1) : StrSt w0 q m r x f n w1 :=
  ⟨h.below.trans (hb.mono h.below.size), by rw [hb.block _ (lt_of_heap h.box)]; exact h.box, by rw [hb.block _ (lt_of_heap h.nxt)]; exact h.nxt, by rw [hb.block _ (lt_of_heap h.out)]; exact h.out, h.q0, h.m0, h.r0, h.qm, h.qr, h.mr⟩
theorem StrSt.word {w0 w : World} {q m r n : Nat} {x : W4} {f : Nat → BitVec 8} (h : StrSt w0 q m r x f n w) :
    w.cell? ⟨m, 0, none⟩ = some (.int .u32 (n32 x.a)) ∧ w.cell? ⟨m, 1, none⟩ = some (.int .u32 (n32 x.b)) ∧ w.cell? ⟨m, 2, none⟩ = some (.int .u32 (n32 x.c)) ∧ w.cell? ⟨m, 3, none⟩ = some (.int .u32 (n32 x.d)) := by
  refine ⟨?_, ?_, ?_, ?_⟩ <;> rw [cell_of_row _ _ _ _ _ _ h.nxt] <;> rfl
theorem StrSt.free {w0 w : World} {q m r n : Nat} {x : W4} {f : Nat → BitVec 8} (h : StrSt w0 q m r x f n w) (j : Nat) : w.frozen? ⟨m, j, none⟩ = false := frozen_of_row _ _ _ _ _ h.nxt
theorem StrSt.outfree {w0 w : World} {q m r n : Nat} {x : W4} {f : Nat → BitVec 8} (h : StrSt w0 q m r x f n w) (j : Nat) : w.frozen? ⟨r, j, none⟩ = false := frozen_of_row _ _ _ _ _ h.out
theorem StrSt.at {w0 w : World} {q m r n : Nat} {x : W4} {f : Nat → BitVec 8} (h : StrSt w0 q m r x f n w) (j : Nat) (hj : j < n) : w.cell? ⟨r, j, none⟩ = some (.int .u8 (n8 (f j))) := by
  rw [cell_of_row _ _ _ _ _ _ h.out]; exact bytesArr_get f n j hj
theorem StrSt.setNext {w0 w : World} {q m r n : Nat} {x : W4} {f : Nat → BitVec 8} (h : StrSt w0 q m r x f n w) (d : BitVec 32) : StrSt w0 q m r ⟨x.a, x.b, x.c, d⟩ f n (w.setCell ⟨m, 3, none⟩ (.int .u32 (n32 d))) :=
  ⟨h.below.setCell h.m0 _, by rw [heap_setCell_other _ _ _ _ h.qm]; exact h.box, by rw [heap_setCell_same _ _ _ _ _ _ h.nxt]; rfl, by rw [heap_setCell_other _ _ _ _ (Ne.symm h.mr)]; exact h.out, h.q0, h.m0, h.r0, h.qm, h.qr, h.mr⟩
theorem StrSt.setOut {w0 w : World} {q m r n : Nat} {x : W4} {f : Nat → BitVec 8} (h : StrSt w0 q m r x f n w) (j : Nat) (y : BitVec 8) : StrSt w0 q m r x (updb f j y) n (w.setCell ⟨r, j, none⟩ (.int .u8 (n8 y))) :=
  ⟨h.below.setCell h.r0 _, by rw [heap_setCell_other _ _ _ _ h.qr]; exact h.box, by rw [heap_setCell_other _ _ _ _ h.mr]; exact h.nxt, by rw [heap_setCell_same _ _ _ _ _ _ h.out, bytesArr_set], h.q0, h.m0, h.r0, h.qm, h.qr, h.mr⟩
set_option maxHeartbeats 1000000 in
theorem stream_nil (a : Option Addr) (n c : Nat) (at_ : Int) (a' : Option Addr) (n' c' : Nat) (w : World) :
    Calls Tryd.prog 73 #[.pointer none, .slice a n c, .int .i64 at_, .slice a' n' c'] w fun e w' => e = .returned (.tuple #[.slice none 0 0, .int .i64 1]) ∧ w = w' := by
  go_enter Tryd.func73, Tryd.ntmps73
  go_wp2_with (go_at_call 69; refine (ready_nil _).mono ?_; rintro e w' ⟨rfl, rfl⟩)
  go_ret2
  exact ⟨rfl, rfl⟩
set_option maxHeartbeats 1000000 in
theorem stream_bad (ks : Nat → BitVec 32) (p : Nat) (a : Option Addr) (n c : Nat) (at_ : Int) (a' : Option Addr) (n' c' : Nat) (w : World) (hc : CipherAt w p ks) (hn : n ≠ 16) :
    Calls Tryd.prog 73 #[.pointer (some ⟨p, 0, none⟩), .slice a n c, .int .i64 at_, .slice a' n' c'] w fun e w' => e = .returned (.tuple #[.slice none 0 0, .int .i64 1]) ∧ w = w' := by
  have h1 : ((n : Int) != 16) = true := by rw [bne_iff_ne]; omega
  have h2 : ((n : Int) == 16) = false := beq_eq_false_iff_ne.2 (by omega)
  go_enter Tryd.func73, Tryd.ntmps73
  go_wp2_with (go_at_call 69; refine (ready_yes ks p _ hc.key hc.some_).mono ?_; rintro e w' ⟨rfl, rfl⟩)
  go_ret2
  exact ⟨rfl, rfl⟩
set_option maxHeartbeats 1000000 in
theorem stream_neg (ks : Nat → BitVec 32) (p : Nat) (a : Option Addr) (c : Nat) (at_ : Int) (a' : Option Addr) (n' c' : Nat) (w : World) (hc : CipherAt w p ks) (hat : at_ < 0) :
    Calls Tryd.prog 73 #[.pointer (some ⟨p, 0, none⟩), .slice a 16 c, .int .i64 at_, .slice a' n' c'] w fun e w' => e = .returned (.tuple #[.slice none 0 0, .int .i64 1]) ∧ w = w' := by
  go_enter Tryd.func73, Tryd.ntmps73
  go_wp2_with (go_at_call 69; refine (ready_yes ks p _ hc.key hc.some_).mono ?_; rintro e w' ⟨rfl, rfl⟩)
  go_ret2
  exact ⟨rfl, rfl⟩
theorem slice_16 (blk s h L : Nat) (hs : s < 16) (hsh : s ≤ h) (hh : h ≤ 16) (hL : L = h - s) (hi : Int) (hhi : hi = (h : Int)) (w : World) :
    (Instr.sliceAt 93 (.pointer (some ⟨blk, 0, none⟩)) (some (.int .i64 (s : Int))) (some (.int .i64 hi)) none).run Tryd.prog w = .ok (.slice (some ⟨blk, s, none⟩) L (16 - s)) w := by
  subst hL hhi
  have hal : Tryd.prog.arrayLen 93 = 16 := by kernel_rfl
  have hu : Tryd.prog.underlying 93 = some (.array (Tryd.prog.arrayLen 93) (Tryd.prog.elem 93)) := by kernel_rfl
  have hz : (Tryd.prog.info? (Tryd.prog.elem 93)).map (·.size) = some 1 := by kernel_rfl
  have hsz : (sizeOf (Tryd.prog.elem 93)).run Tryd.prog w = .ok 1 w := by
    cases hq : Tryd.prog.info? (Tryd.prog.elem 93) with
    | none => simp [hq] at hz
    | some x =>
      have hx : x.size = 1 := by simpa [hq] using hz
      simp [sizeOf, typeInfo, hq, hx, Sem.run_bind]
  rw [run_sliceAt_array_lh w 93 _ hu .i64 .i64 s h (by omega) (by omega) (by rw [hal]; omega), hsz]
  simp only [Result.andThen_ok, slicedAt, hal, Int.toNat_natCast, Nat.mul_one]
  rw [if_neg (by omega)]
  congr 3
  unfold Addr.add
  split <;> simp_all
theorem strm_step (ks : Nat → BitVec 32) (x0 : W4) (at_ d s j : Nat) (hs : (at_ + d) % 16 = s) (hj : s + j < 16) :
    strm ks x0 (at_ + (d + j)) = (turned sbox ks (x0.plus ((at_ + d) / 16))).byte (s + j) := by
  unfold strm
  rw [show (at_ + (d + j)) / 16 = (at_ + d) / 16 by omega, show (at_ + (d + j)) % 16 = s + j by omega]
theorem plus_step (x0 : W4) (k : Nat) : (⟨(x0.plus k).a, (x0.plus k).b, (x0.plus k).c, (x0.plus k).d + 1#32⟩ : W4) = x0.plus (k + 1) := by
  unfold W4.plus
  simp only [BitVec.ofNat_add, BitVec.add_assoc]
set_option maxHeartbeats 8000000 in
set_option maxRecDepth 100000 in
theorem stream_ok (ks : Nat → BitVec 32) (ct xs : Nat → BitVec 8) (p kb ko c at_ : Nat) (a : Option Addr) (n cc : Nat) (w : World) (hc : CipherAt w p ks)
    (hb : ∀ i, i < 16 → w.cell? ⟨kb, ko + i, none⟩ = some (.int .u8 (n8 (ct i)))) (hkb : kb < w.heap.size) (hat : at_ ≤ 4611686018427387904) (hn : n ≤ 140737488351232)
    (hx : n = 0 ∨ ∃ bb bo, a = some ⟨bb, bo, none⟩ ∧ bb < w.heap.size ∧ ∀ i, i < n → w.cell? ⟨bb, bo + i, none⟩ = some (.int .u8 (n8 (xs i)))) :
    Calls Tryd.prog 73 #[.pointer (some ⟨p, 0, none⟩), .slice (some ⟨kb, ko, none⟩) 16 c, .int .i64 (at_ : Int), .slice a n cc] w
      fun e w' => ∃ r, e = .returned (.tuple #[.slice (some ⟨r, 0, none⟩) n n, .int .i64 0]) ∧ Below w.heap.size w w' ∧ w.heap.size ≤ r ∧ w'.heap[r]? = some (.cells (bytesArr (fun i => xs i ^^^ strm ks (W4.of ct) (at_ + i)) n) 5 (0, 0)) := by
  have c0 : w.cell? ⟨kb, ko, none⟩ = some (.int .u8 (n8 (ct 0))) := hb 0 (by omega)
  have Hb := Lib.hid hb
  have C0 := Lib.hid c0
  have Hx := Lib.hid hx
  have mk := run_make_bytes n (by omega)
  clear hb c0 hx
  go_enter Tryd.func73, Tryd.ntmps73
  go_upto_region 4 with (first
    | (go_at_call 69; refine (ready_yes ks p _ hc.key hc.some_).mono ?_; rintro e w' ⟨rfl, rfl⟩)
    | (go_at_call 65; refine (substitutes_any _).mono ?_; rintro e w1 ⟨rfl, hb1⟩)
    | (refine wpList_alloc_row (o := ⟨some 10, .alloc 106, _, _, _, _⟩) rfl 106 rfl zeros256 zero_256 ?_)
    | (refine wpList_store_new (o := ⟨none, .store 106 (.tmp 10) (.tmp 30), _, _, _, _⟩) rfl 106 _ _ rfl zeros256 sboxCells _ rfl rfl rfl size_256 (by kernel_rfl) sboxCells_one ?_))
  simp only [Act.put, List.setIfInBounds_toArray, List.set_cons_succ, List.set_cons_zero]
  have hbw : Below w.heap.size w (w1.alloc (.cells sboxCells 106)) := hb1.alloc hb1.size _
  have hbox : (w1.alloc (.cells sboxCells 106)).heap[w1.heap.size]? = some (.cells sboxCells 106 (0, 0)) := heap_alloc_last _ _
  have hq0 := hb1.size
  generalize hq : w1.heap.size = q at *
  generalize hW : w1.alloc _ = wa at *
  clear hq hW hb1
  have facts : ∀ i, i < 16 → wa.cell? ⟨kb, ko + i, none⟩ = some (.int .u8 (n8 (ct i))) := fun i hi => by rw [hbw.cell (p := ⟨kb, ko + i, none⟩) hkb]; exact Hb.out i hi
  have c0 : wa.cell? ⟨kb, ko, none⟩ = some (.int .u8 (n8 (ct 0))) := facts 0 (by omega)
  go_wp2_with fail
  refine (wordsOf_any ct wa).mono ?_
  rintro e w2 ⟨rfl, hb2⟩
  clear facts c0 C0 Hb
  unfold W4.val
  have e1 : IntKind.u32.wrap ((at_ : Int) / 16) = n32 (BitVec.ofNat 32 (at_ / 16)) := by
    rw [wrap_n32, show ((at_ : Int) / 16) = ((at_ / 16 : Nat) : Int) from by omega, ofInt_lit32]
  have E1 := e1
  go_wp2_with fail
  clear e1 mk
  generalize hW4 : W4.of ct = x0 at *
  have HW4 := Lib.hid hW4
  have st0 : StrSt w q w2.heap.size (w2.heap.size + 1) (x0.plus (at_ / 16)) (fun _ => 0#8) n ((w2.alloc (.cells #[.int .u32 (n32 x0.a), .int .u32 (n32 x0.b), .int .u32 (n32 x0.c), .int .u32 (n32 (x0.d + BitVec.ofNat 32 (at_ / 16)))] 116)).alloc (.cells (bytesArr (fun _ => 0#8) n) 5)) := by
    have h1 := (hbw.trans (hb2.mono hbw.size))
    have h2 : q < w2.heap.size := Nat.lt_of_lt_of_le (lt_of_heap hbox) hb2.size
    refine ⟨(h1.alloc h1.size _).alloc (by simp; exact Nat.le_succ_of_le h1.size) _, ?_, heap_alloc2_old _ _ _, heap_alloc2_new _ _ _, hq0, h1.size, Nat.le_succ_of_le h1.size, by omega, by omega, by omega⟩
    rw [Below.heap_alloc _ _ _ (by simp; omega), Below.heap_alloc _ _ _ h2, hb2.block _ (lt_of_heap hbox)]
    exact hbox
  generalize hm : w2.heap.size = m at *
  generalize hW : (World.alloc _ _).alloc _ = wb at *
  clear hm hW hb2 hbw hbox hW4 wa w1 w2
  go_loopw [12, 14] (fun s12 s14 wr => ∃ d x f, d ≤ n ∧ s14 = .int .i64 ((d : Nat) : Int) ∧ (d < n → s12 = .int .i64 (((at_ + d) % 16 : Nat) : Int) ∧ x = x0.plus ((at_ + d) / 16)) ∧ (∀ i, i < d → f i = xs i ^^^ strm ks x0 (at_ + i)) ∧ StrSt w q m (m + 1) x f n wr)
    (fun _ s14 _ => n - (intOf s14).toNat)
  case atStart => exact ⟨0, _, _, by omega, rfl, fun _ => ⟨by simp, rfl⟩, fun i hi => by omega, st0⟩
  case round =>
    clear st0
    obtain ⟨d, x, f, hd, rfl, hs, hf, st⟩ := hrel
    by_cases hlt : d < n
    · obtain ⟨rfl, rfl⟩ := hs hlt
      clear hs
      obtain hx | ⟨bb, bo, rfl, hbb, hcell⟩ := Hx.out
      · omega
      generalize hsk : (at_ + d) % 16 = s
      have hs16 : s < 16 := by omega
      have HS := Lib.hid hsk
      clear hsk
      have F := Lib.hid hf
      have HC := Lib.hid hcell
      clear hf hcell
      obtain ⟨c0, c1, c2, c3⟩ := st.word
      go_wp2_with fail
      refine (turnA_any sbox ks p q _ _ _ _ wr (fun i hi => ?_) (fun i hi => ?_) (lt_of_heap st.box) (Nat.lt_of_lt_of_le hc.lt st.below.size)).mono ?_
      · rw [cell_of_row _ _ _ _ _ _ st.box]; exact sboxCells_get i hi
      · rw [st.below.cell (p := ⟨p, i, none⟩) hc.lt]; exact hc.key i hi
      rintro e w3 ⟨rfl, hb3⟩
      clear c0 c1 c2 c3
      generalize hy : turned _ _ _ = y
      have Hy := Lib.hid hy
      clear hy
      unfold W4.val
      go_wp2_with fail
      refine (bytesOf_any _ _ _ _ w3).mono ?_
      rintro e w4 ⟨rfl, hb4⟩
      have st1 := (st.later hb3).later hb4
      clear st hb3 hb4
      go_upto_region 12 with (first
        | (refine wpList_alloc_row (o := ⟨some 15, .alloc 93, _, _, _, _⟩) rfl 93 rfl zeros16 zero_16 ?_)
        | (refine wpList_store_new (o := ⟨none, .store 93 (.tmp 15) (.tmp 58), _, _, _, _⟩) rfl 93 _ _ rfl zeros16 (b16 _) _ rfl rfl rfl (size_16 _) rfl (b16_one _) ?_))
      simp only [Act.put, List.setIfInBounds_toArray, List.set_cons_succ, List.set_cons_zero]
      obtain ⟨L, hL0, hL1, hL2, hL3⟩ : ∃ L, L + s ≤ 16 ∧ d + L ≤ n ∧ 0 < L ∧ (L + s = 16 ∨ d + L = n) := by
        by_cases h : 16 ≤ s + (n - d)
        · exact ⟨16 - s, by omega, by omega, by omega, by omega⟩
        · exact ⟨n - d, by omega, by omega, by omega, by omega⟩
      have HL3 := Lib.hid hL3
      have hsl : ∀ w' (hi : Int), hi = ((L + s : Nat) : Int) → (Instr.sliceAt 93 (.pointer (some ⟨w4.heap.size, 0, none⟩)) (some (.int .i64 (s : Int))) (some (.int .i64 hi)) none).run Tryd.prog w' = .ok (.slice (some ⟨w4.heap.size, s, none⟩) L (16 - s)) w' :=
        fun w' hi hhi => slice_16 w4.heap.size s (L + s) L hs16 (by omega) hL0 (by omega) hi hhi w'
      have hblk : (w4.alloc (.cells (b16 (W4.byte ⟨y.a, y.b, y.c, y.d⟩)) 93)).heap[w4.heap.size]? = some (.cells (b16 (W4.byte ⟨y.a, y.b, y.c, y.d⟩)) 93 (0, 0)) := heap_alloc_last _ _
      have st2 := st1.later ((Below.refl _ _).alloc (Nat.le_refl _) (.cells (b16 (W4.byte ⟨y.a, y.b, y.c, y.d⟩)) 93))
      have hbm : w4.heap.size ≠ m + 1 := by have := lt_of_heap st1.out; omega
      clear st1 hL3
      generalize hk : w4.heap.size = kq at *
      generalize hW : World.alloc _ _ = wc at *
      clear hk hW w3 w4
      have hsA : L + s = 16 → ∀ w', (Instr.sliceAt 93 (.pointer (some ⟨kq, 0, none⟩)) (some (.int .i64 (s : Int))) (some (.int .i64 16)) none).run Tryd.prog w' = .ok (.slice (some ⟨kq, s, none⟩) L (16 - s)) w' := fun h w' => hsl w' 16 (by rw [h]; rfl)
      have hsB : d + L = n → ∀ w', (Instr.sliceAt 93 (.pointer (some ⟨kq, 0, none⟩)) (some (.int .i64 (s : Int))) (some (.int .i64 ((s : Int) + (n : Int) - (d : Int)))) none).run Tryd.prog w' = .ok (.slice (some ⟨kq, s, none⟩) L (16 - s)) w' := fun h w' => hsl w' _ (by omega)
      clear hsl
      have cut : ∀ P : Prop, ((16 ≤ s + (n - d) ∧ L + s = 16) → P) → ((¬ 16 ≤ s + (n - d) ∧ d + L = n) → P) → P := fun P h1 h2 => by
        by_cases h : 16 ≤ s + (n - d)
        · exact h1 ⟨h, by rcases HL3.out with h3 | h3 <;> omega⟩
        · exact h2 ⟨h, by rcases HL3.out with h3 | h3 <;> omega⟩
      refine cut _ (fun hcase => ?_) (fun hcase => ?_)
      all_goals
        first
          | (have hs0 := hsA hcase.2; have hc1 : (16 : Int) ≤ (s : Int) + (n : Int) - (d : Int) := by omega)
          | (have hs0 := hsB hcase.2; have hc1 : (s : Int) + (n : Int) - (d : Int) < 16 := by omega)
        clear hsA hsB cut hcase
        go_wp2_with fail
        clear hs0 hc1
        go_loopw [14, 69] (fun s14 s69 wq => ∃ j g, j ≤ L ∧ s69 = .int .i64 ((j : Nat) : Int) ∧ s14 = .int .i64 ((d + j : Nat) : Int) ∧ (∀ i, i < d + j → g i = xs i ^^^ strm ks x0 (at_ + i))
            ∧ StrSt w q m (m + 1) (x0.plus ((at_ + d) / 16)) g n wq ∧ wq.heap[kq]? = some (.cells (b16 (W4.byte ⟨y.a, y.b, y.c, y.d⟩)) 93 (0, 0)))
          (fun _ s69 _ => L - (intOf s69).toNat)
        case atStart => exact ⟨0, f, by omega, rfl, rfl, F.out, st2, hblk⟩
        case round =>
          clear st2 hblk F
          obtain ⟨j, g, hj, rfl, rfl, hg, sq, hrow⟩ := hrel
          have G := Lib.hid hg
          clear hg
          by_cases hjL : j < L
          · have hsj : s + j < 16 := by omega
            have hdn : d + j < n := by omega
            have k1 : wr.cell? ⟨kq, s + j, none⟩ = some (.int .u8 (n8 (y.byte (s + j)))) := by
              rw [cell_of_row _ _ _ _ _ _ hrow]; exact b16_get _ _ hsj
            have k2 : wr.cell? ⟨bb, bo + (d + j), none⟩ = some (.int .u8 (n8 (xs (d + j)))) := by
              rw [sq.below.cell (p := ⟨bb, bo + (d + j), none⟩) hbb]; exact HC.out _ hdn
            have k3 := sq.at (d + j) hdn
            have f3 := sq.outfree (d + j)
            go_wp2_with fail
            have sq' := sq.setOut (d + j) (xs (d + j) ^^^ y.byte (s + j))
            have hrow' : (wr.setCell ⟨m + 1, d + j, none⟩ (.int .u8 (n8 (xs (d + j) ^^^ y.byte (s + j))))).heap[kq]? = some (.cells (b16 (W4.byte ⟨y.a, y.b, y.c, y.d⟩)) 93 (0, 0)) := by
              rw [heap_setCell_other _ _ _ _ hbm]; exact hrow
            clear k1 k2 k3 f3 sq hrow
            go_roundw
            case rel =>
              refine ⟨j + 1, updb g (d + j) (xs (d + j) ^^^ y.byte (s + j)), by omega, by go_num, by go_num, fun i hi => ?_, sq', hrow'⟩
              unfold updb
              by_cases hij : i = d + j
              · rw [if_pos hij, hij, strm_step ks x0 at_ d s j HS.out hsj]
                have : y = turned sbox ks (x0.plus ((at_ + d) / 16)) := Hy.out.symm
                rw [this]
              · rw [if_neg hij]; exact G.out i (by omega)
            case measure => simp [intOf]; omega
          · obtain rfl : j = L := by omega
            obtain ⟨c0, c1, c2, c3⟩ := sq.word
            have f3 := sq.free 3
            go_wp2_with fail
            have sq' := sq.setNext ((x0.plus ((at_ + d) / 16)).d + 1#32)
            rw [plus_step] at sq'
            clear c0 c1 c2 c3 f3 sq hrow
            go_roundw
            case rel =>
              refine ⟨d + j, _, g, by omega, by go_num, fun hlt2 => ?_, G.out, sq'⟩
              have h16 : j + s = 16 := by rcases HL3.out with h | h <;> omega
              have hh := HS.out
              refine ⟨?_, ?_⟩
              · rw [show (at_ + (d + j)) % 16 = 0 by omega]; rfl
              · rw [show (at_ + (d + j)) / 16 = (at_ + d) / 16 + 1 by omega]
            case measure => simp [intOf]; omega
    · obtain rfl : d = n := by omega
      go_wp2_with fail
      go_ret2
      exact ⟨m + 1, rfl, st.below, st.r0, by rw [HW4.out, ← bytesArr_congr f _ d hf]; exact st.out⟩
end Go.Proofs.YtjbpjoondmcnlabDoor
/-
  FIPS 197's BLOCK: what its turn needs.
-/
namespace Go.Proofs.YtjbpjoondmcnlabDoor
open Go Go.RowKit Go.BigFrame
set_option maxRecDepth 100000
def keyAB (i : Nat) : BitVec 8 := BitVec.ofNat 8 i
def txtB (i : Nat) : BitVec 8 := BitVec.ofNat 8 (17 * i)
theorem out0 : (W4.byte (turned sbox (sched keyAB) (W4.of txtB)) 0) = 0x69#8 := by decide +kernel
theorem out15 : (W4.byte (turned sbox (sched keyAB) (W4.of txtB)) 15) = 0x5A#8 := by decide +kernel
theorem apart_kept {w w1 : World} {v v1 u : Value} (hn : NewBlock w w1 v v1) (hd : v.ownBlock = none ∨ u.ownBlock = none ∨ v.ownBlock ≠ u.ownBlock) (hu : ∀ k, u.ownBlock = some k → k < w.heap.size) :
    v1.ownBlock = none ∨ u.ownBlock = none ∨ v1.ownBlock ≠ u.ownBlock := by
  rcases hn with ⟨h, _⟩ | ⟨⟨k, hk, hlt⟩, _⟩
  · rw [h]; exact hd
  · right
    cases hb : u.ownBlock with
    | none => exact .inl rfl
    | some j =>
      right
      have := hu j hb
      rw [hk]
      intro e
      injection e with e
      omega
/-- No key makes noughts alone. -/
theorem sched_ne (b : Nat → BitVec 8) : ∃ i, i < 44 ∧ sched b i ≠ 0#32 := by
  by_cases h0 : sched b 0 = 0#32
  · by_cases h3 : sched b 3 = 0#32
    · refine ⟨4, by omega, ?_⟩
      have e0 : (keyAt b 0).a = 0#32 := h0
      have e3 : (keyAt b 0).d = 0#32 := h3
      show (W4.next sbox (keyAt b 0) (rcon 0)).a ≠ 0#32
      unfold W4.next
      simp only [e0, e3]
      decide +kernel
    · exact ⟨3, by omega, h3⟩
  · exact ⟨0, by omega, h0⟩
theorem own_slice0 {w : World} {B : Nat} {v : Value} {n : Nat} {f : Nat → BitVec 8} (hn : 0 < n) (h : w.ownsRow B 5 1 v n (firsts f n)) :
    ∃ g cap, v = .slice (some ⟨g, 0, none⟩) n cap ∧ B ≤ g ∧ g < w.heap.size ∧ ∀ i, i < n → w.cell? ⟨g, 0 + i, none⟩ = some (.int .u8 (n8 (f i))) := by
  have hc := h
  rcases h.2 with ⟨_, h0⟩ | ⟨g, cap, cur, rfl, hB, hg, _⟩
  · omega
  · refine ⟨g, cap, rfl, hB, lt_of_heap hg, fun i hi => ?_⟩
    have h1 := hc.cells (g := g) rfl i (.int .u8 (n8 (f i))) (by simp [firsts, hi])
    have : ((⟨g, 0, none⟩ : Addr).add i) = ⟨g, 0 + i, none⟩ := by unfold Addr.add; split <;> simp_all
    rw [← this]; exact h1
theorem KeySt.cipher {w0 w : World} {p q : Nat} {b : Nat → BitVec 8} (h : KeySt w0 p q (sched b) w) : CipherAt w p (sched b) :=
  ⟨h.key, sched_ne b, lt_of_heap h.row⟩
theorem Fresh16.cell {w0 w : World} {r : Nat} {b : Nat → BitVec 8} (h : Fresh16 w0 r b w) (i : Nat) (hi : i < 16) : w.cell? ⟨r, i, none⟩ = some (.int .u8 (n8 (b i))) := by
  rw [cell_of_row _ _ _ _ _ _ h.row]; exact b16_get b i hi
end Go.Proofs.YtjbpjoondmcnlabDoor
/-
  THE CALLS OF PACKAGE gcm, FOURTH PART: a register behind a text's blocks.
-/
namespace Go.Proofs.YtjbpjoondmcnlabDoor
open Go Go.RowKit Go.BigFrame
set_option maxRecDepth 100000
set_option linter.unusedSimpArgs false
/-- A box's H, as it lies in memory. -/
structure BoxH (w : World) (p : Nat) (h : W2) : Prop where
  c1 : w.cell? ⟨p, 1, none⟩ = some (.int .u64 (n64 h.hi))
  c2 : w.cell? ⟨p, 2, none⟩ = some (.int .u64 (n64 h.lo))
  lt : p < w.heap.size
theorem BoxH.later {w w1 : World} {p : Nat} {h : W2} (b : BoxH w p h) (hb : Below w.heap.size w w1) : BoxH w1 p h :=
  ⟨by rw [hb.cell (p := ⟨p, 1, none⟩) b.lt]; exact b.c1, by rw [hb.cell (p := ⟨p, 2, none⟩) b.lt]; exact b.c2, Nat.lt_of_lt_of_le b.lt hb.size⟩
/-- The register behind k whole blocks. -/
def sumK (h r : W2) (f : Nat → BitVec 8) : Nat → W2
  | 0 => r
  | k + 1 => W2.mul (W2.xor (sumK h r f k) (W2.of (fun i => f (16 * k + i)))) h
/-- The last block, filled up. -/
def padF (f : Nat → BitVec 8) (n i : Nat) : BitVec 8 := if i < n then f i else 0#8
def sumGB (h r : W2) (f : Nat → BitVec 8) (n : Nat) : W2 :=
  if n % 16 = 0 then sumK h r f (n / 16) else W2.mul (W2.xor (sumK h r f (n / 16)) (W2.of (padF (fun i => f (16 * (n / 16) + i)) (n % 16)))) h
structure SumSt (w0 : World) (x : W2) (w : World) : Prop where
  below : Below w0.heap.size w0 w
  reg : w.heap[w0.heap.size]? = some (.cells (c2 x) 91 (0, 0))
  out : w.heap[w0.heap.size + 1]? = some (.cells #[.int .u64 0, .int .u64 0] 91 (0, 0))
theorem SumSt.later {w0 w w1 : World} {x : W2} (s : SumSt w0 x w) (hb : Below w.heap.size w w1) : SumSt w0 x w1 :=
  ⟨s.below.trans (hb.mono s.below.size), by rw [hb.block _ (lt_of_heap s.reg)]; exact s.reg, by rw [hb.block _ (lt_of_heap s.out)]; exact s.out⟩
theorem SumSt.cells {w0 w : World} {x : W2} (s : SumSt w0 x w) : w.cell? ⟨w0.heap.size, 0, none⟩ = some (.int .u64 (n64 x.hi)) ∧ w.cell? ⟨w0.heap.size, 1, none⟩ = some (.int .u64 (n64 x.lo)) := by
  rw [cell_of_row _ _ _ _ _ _ s.reg, cell_of_row _ _ _ _ _ _ s.reg]
  exact ⟨rfl, rfl⟩
theorem SumSt.free {w0 w : World} {x : W2} (s : SumSt w0 x w) (j : Nat) : w.frozen? ⟨w0.heap.size, j, none⟩ = false := frozen_of_row _ _ _ _ _ s.reg
theorem SumSt.outs {w0 w : World} {x : W2} (s : SumSt w0 x w) : w.cell? ⟨w0.heap.size + 1, 0, none⟩ = some (.int .u64 0) ∧ w.cell? ⟨w0.heap.size + 1, 1, none⟩ = some (.int .u64 0) := by
  rw [cell_of_row _ _ _ _ _ _ s.out, cell_of_row _ _ _ _ _ _ s.out]
  exact ⟨rfl, rfl⟩
theorem SumSt.outfree {w0 w : World} {x : W2} (s : SumSt w0 x w) (j : Nat) : w.frozen? ⟨w0.heap.size + 1, j, none⟩ = false := frozen_of_row _ _ _ _ _ s.out
theorem SumSt.sets {w0 w : World} {x : W2} (s : SumSt w0 x w) (y : W2) : SumSt w0 y ((w.setCell ⟨w0.heap.size, 0, none⟩ (.int .u64 (n64 y.hi))).setCell ⟨w0.heap.size, 1, none⟩ (.int .u64 (n64 y.lo))) := by
  refine ⟨(s.below.setCell (Nat.le_refl _) _).setCell (Nat.le_refl _) _, ?_, ?_⟩
  · rw [heap_setCell_same _ _ _ _ _ _ (heap_setCell_same _ _ _ _ _ _ s.reg)]
    rfl
  · rw [heap_setCell_other _ _ _ _ (show w0.heap.size + 1 ≠ w0.heap.size by omega), heap_setCell_other _ _ _ _ (show w0.heap.size + 1 ≠ w0.heap.size by omega)]; exact s.out
theorem run_from16 (a : Option Addr) (m c : Nat) (hm : 16 ≤ m) : ∃ a', (∀ w : World, (Instr.sliceAt 31 (.slice a m c) (some (.int .i64 16)) none none).run Tryd.prog w = .ok (.slice a' (m - 16) (c - 16)) w) ∧ (c ≠ 16 → a' = a.map (·.add 16)) := by
  refine ⟨if c = 16 then a else a.map (·.add 16), fun w => ?_, fun h => by rw [if_neg h]⟩
  have hu : Tryd.prog.underlying 31 = some (.slice (Tryd.prog.elem 31)) := by kernel_rfl
  rw [run_sliceAt_slice (t := 31) (h := hu), run_slice_any (t := 31) (ht := hu)]
  have h0 : (0 : Int) ≤ (16 : Int) := by omega
  have h1 : (16 : Int) ≤ (m : Int) := by omega
  simp [Instr.sliceBounds, go_sem, h0, h1]
theorem b16_range (g : Nat → BitVec 8) (b o : Nat) (w : World) (hc : ∀ i, i < 16 → w.cell? ⟨b, o + i, none⟩ = some (.int .u8 (n8 (g i)))) : w.rangeAt b o (b16 g).toList := fun j v hv => by
  have hj : j < 16 := by have := (List.getElem?_eq_some_iff.1 hv).1; simpa [b16] using this
  rw [hc j hj]
  rw [Array.getElem?_toList, b16_get g j hj] at hv
  exact hv
theorem load16_any (g : Nat → BitVec 8) (b o : Nat) (w : World) (hc : ∀ i, i < 16 → w.cell? ⟨b, o + i, none⟩ = some (.int .u8 (n8 (g i)))) :
    (Instr.loadAt 93 (.pointer (some ⟨b, o, none⟩))).run Tryd.prog w = .ok (.agg (b16 g)) w := by
  have h := run_loadAt_mid (P := Tryd.prog) w b o 93 (b16 g).toList (.array 16 5) (b16_range g b o w hc) (by kernel_rfl) rfl (by rw [Array.length_toList]; kernel_rfl)
  rw [Array.toArray_toList] at h
  exact h
theorem quiet_run {P : Program} {x : Sem Value} {v : Value} {w : World} (h : x.run P w = .ok v w) : (x >>= fun v => pure (Next.value v)).run P w = .ok (.value v) w := by
  rw [Sem.run_bind, h]; rfl
end Go.Proofs.YtjbpjoondmcnlabDoor
