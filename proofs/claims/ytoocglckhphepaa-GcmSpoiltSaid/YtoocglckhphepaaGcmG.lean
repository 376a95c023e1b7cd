/-
  THE CALLS OF PACKAGE gcm, SEVENTH PART: a new box; bytes put together with a nonce's stream.
-/
import Derived.Test.YtoocglckhphepaaGcmF
namespace Go.Proofs.Ytoocglckhphepaa
open Go Go.RowKit Go.BigFrame
set_option maxRecDepth 100000
set_option linter.unusedSimpArgs false
/-- The box's H of a key's words. -/
def hOf (ks : Nat → BitVec 32) : W2 := W2.of (turned sbox ks (W4.of (fun _ => 0#8))).byte
/-- What a nonce's stream makes of bytes. -/
def hid (ks : Nat → BitVec 32) (f xs : Nat → BitVec 8) (i : Nat) : BitVec 8 := xs i ^^^ strm ks (W4.of (ctrN f 2#8)) i
theorem run_make16 (w : World) : (Instr.makeSlice 25 (.int .i64 16) (.int .i64 16)).run Try.prog w = .ok (.slice (some ⟨w.heap.size, 0, none⟩) 16 16) (w.alloc (.cells (bytesArr (fun _ => 0#8) 16) 5)) := run_make_bytes 16 (by omega) w
set_option maxHeartbeats 4000000 in
theorem gnew_bad (a : Option Addr) (n c : Nat) (w : World) (hn : n ≠ 16) :
    Calls Try.prog 9 #[.slice a n c] w fun e w' => e = .returned (.tuple #[.pointer none, .int .i64 1]) ∧ w = w' := by
  go_enter Try.func9, Try.ntmps9
  go_wp2_with fail
  refine (new_bad a n c w hn).mono ?_
  rintro e w1 ⟨rfl, rfl⟩
  go_wp2_with fail
  go_ret2
  exact ⟨rfl, rfl⟩
set_option maxHeartbeats 4000000 in
theorem gnew_ok (b : Nat → BitVec 8) (kb ko c : Nat) (w : World) (hb : ∀ i, i < 16 → w.cell? ⟨kb, ko + i, none⟩ = some (.int .u8 (n8 (b i)))) (hkb : kb < w.heap.size) :
    Calls Try.prog 9 #[.slice (some ⟨kb, ko, none⟩) 16 c] w fun e w' => ∃ p q, e = .returned (.tuple #[.pointer (some ⟨p, 0, none⟩), .int .i64 0]) ∧ w.heap.size ≤ p ∧ Below w.heap.size w w' ∧ BoxAt w' p q (sched b) (hOf (sched b)) := by
  have N := Lib.hid (new_ok b kb ko c w hb hkb)
  clear hb hkb
  go_enter Try.func9, Try.ntmps9
  go_wp2_with fail
  refine N.out.mono ?_
  rintro e w1 ⟨rfl, q, hk1⟩
  have hci := hk1.cipher
  have hb1 : Below w.heap.size w w1 := hk1.below
  have HB1 := Lib.hid hb1
  clear hk1 hb1 N
  have mk := run_make16
  go_wp2_with fail
  clear mk
  have hc2 := hci.later ((Below.refl w1.heap.size w1).alloc (Nat.le_refl _) (.cells (bytesArr (fun _ => 0#8) 16) 5))
  refine (block_ok (sched b) (fun _ => 0#8) w.heap.size w1.heap.size 0 16 _ hc2 (fun i hi => by rw [Nat.zero_add, cell_of_row _ _ _ _ _ _ (heap_alloc_last w1 _)]; exact bytesArr_get _ _ _ hi) (by simp)).mono ?_
  rintro e w2 ⟨r, rfl, hf⟩
  have hc3 := hc2.later hf.below
  have HB2 := Lib.hid ((HB1.out.alloc HB1.out.size (.cells (bytesArr (fun _ => 0#8) 16) 5)).trans (hf.below.mono (by have := HB1.out.size; simp; omega)))
  have F := Lib.hid hf
  have av : (Instr.arrayAt 22 (.slice (some ⟨r, 0, none⟩) 16 16)).run Try.prog w2 = .ok (.pointer (some ⟨r, 0, none⟩)) w2 := run_arrayAt w2 22 5 16 _ 16 16 (by kernel_rfl) (by omega)
  have hc4 := Lib.hid hc3
  clear hci hc2 hf hc3
  have facts : ∀ i, i < 16 → w2.cell? ⟨r, 0 + i, none⟩ = some (.int .u8 (n8 ((W4.byte (turned sbox (sched b) (W4.of fun _ => 0#8))) i))) := fun i hi => by rw [Nat.zero_add]; exact F.out.cell i hi
  have ld := load16_any _ r 0 w2 facts
  clear facts
  generalize hG : (W4.byte (turned sbox (sched b) (W4.of fun _ => 0#8))) = G at *
  have HG := Lib.hid hG
  clear hG
  go_wp2_with (refine wpList_run (o := ⟨some 25, .load 22 _, _, _, _, _⟩) (v := .agg (b16 G)) (w' := w2) rfl (quiet_run ld) ?_)
  refine (wordsOf2_any G w2).mono ?_
  rintro e w3 ⟨rfl, hb3⟩
  have HB3 := Lib.hid (HB2.out.trans (hb3.mono HB2.out.size))
  have hc5 := Lib.hid (hc4.out.later hb3)
  unfold W2.val
  clear ld av hb3
  go_wp2_with fail
  go_ret2
  refine ⟨w3.heap.size, w.heap.size, rfl, HB3.out.size, HB3.out.alloc HB3.out.size _, ?_, ⟨?_, ?_, by simp⟩, hc5.out.later ((Below.refl w3.heap.size w3).alloc (Nat.le_refl _) _)⟩
  · rw [cell_of_row _ _ _ _ _ _ (heap_alloc_last w3 _)]; rfl
  · rw [cell_of_row _ _ _ _ _ _ (heap_alloc_last w3 _)]; unfold hOf; rw [HG.out]; rfl
  · rw [cell_of_row _ _ _ _ _ _ (heap_alloc_last w3 _)]; unfold hOf; rw [HG.out]; rfl
set_option maxHeartbeats 4000000 in
theorem turned_any' (p q : Nat) (ks : Nat → BitVec 32) (h : W2) (f xs : Nat → BitVec 8) (kb ko kc : Nat) (a : Option Addr) (n c : Nat) (w : World) (hB : BoxAt w p q ks h)
    (hk : ∀ i, i < 12 → w.cell? ⟨kb, ko + i, none⟩ = some (.int .u8 (n8 (f i)))) (hkb : kb < w.heap.size) (hx : BytesIn w a n xs) (hn : n ≤ 140737488351232) :
    Calls Try.prog 24 #[.pointer (some ⟨p, 0, none⟩), .slice (some ⟨kb, ko, none⟩) 12 kc, .slice a n c] w
      fun e w' => ∃ r, e = .returned (.tuple #[.slice (some ⟨r, 0, none⟩) n n, .int .i64 0]) ∧ Below w.heap.size w w' ∧ w.heap.size ≤ r ∧ w'.heap[r]? = some (.cells (bytesArr (hid ks f xs) n) 5 (0, 0)) := by
  have CT := Lib.hid (counter_any f 2#8 kb ko kc w hk hkb)
  rw [show n8 2#8 = 2 by unfold n8; rfl] at CT
  have HX := Lib.hid hx
  have HB := Lib.hid hB
  clear hk hkb hx hB
  go_enter Try.func24, Try.ntmps24
  go_wp2_with fail
  refine CT.out.mono ?_
  rintro e w1 ⟨rfl, hb1⟩
  clear CT
  go_wp2_with (first
    | (refine wpList_alloc_row (o := ⟨some 8, .alloc 22, _, _, _, _⟩) rfl 22 rfl zeros16 zero_16 ?_)
    | (refine wpList_store_new (o := ⟨none, .store 22 (.tmp 8) (.tmp 10), _, _, _, _⟩) rfl 22 _ _ rfl zeros16 (b16 _) _ rfl rfl rfl (size_16 _) rfl (b16_one _) ?_))
  have hb2 := hb1.alloc hb1.size (.cells (b16 (ctrN f 2#8)) 22)
  have row : (w1.alloc (.cells (b16 (ctrN f 2#8)) 22)).heap[w1.heap.size]? = some (.cells (b16 (ctrN f 2#8)) 22 (0, 0)) := heap_alloc_last _ _
  have hs1 := hb1.size
  generalize hW : w1.alloc _ = w2 at *
  generalize w1.heap.size = k at *
  clear hW hb1
  have bx := HB.out.later hb2.drew
  have c0 := bx.c0
  have Bx := Lib.hid bx
  have Row := Lib.hid row
  have HB2 := Lib.hid hb2
  have HX2 := Lib.hid (bytesIn_later HX.out hb2.drew)
  clear bx row hb2
  have sk := stream_ok ks (ctrN f 2#8) xs q k 0 16 0 a n c w2.drew Bx.out.cip (fun i hi => by rw [Nat.zero_add]; show w2.cell? _ = _; rw [cell_of_row _ _ _ _ _ _ Row.out]; exact b16_get _ _ hi) (lt_of_heap Row.out) (by omega) hn HX2.out.2
  rw [show ((0 : Nat) : Int) = 0 from rfl] at sk
  have SK := Lib.hid sk
  clear sk
  go_region_held3 (fun w' => w'.cell? ⟨p, 0, none⟩ = some (.pointer (some ⟨q, 0, none⟩))) (first | assumption | exact k2)
    (first | (go_at_call 38; with_reducible refine SK.out.mono ?_; rintro e w3 ⟨r, rfl, hb3, hr, row3⟩; have k2 := (Bx.out.later hb3).c0) | fail)
  go_wp2_with fail
  go_ret2
  have hA := HB2.out.trans ((((Below.refl w2.heap.size w2).drew).trans hb3).mono HB2.out.size)
  have e : bytesArr (fun i => xs i ^^^ strm ks (W4.of (ctrN f 2#8)) (0 + i)) n = bytesArr (hid ks f xs) n := bytesArr_congr _ _ n (fun i hi => by unfold hid; rw [Nat.zero_add])
  rw [e] at row3
  exact ⟨r, rfl, hA, Nat.le_trans HB2.out.size hr, row3⟩
end Go.Proofs.Ytoocglckhphepaa
