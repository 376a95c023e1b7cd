/-
  THE CODE'S PRODUCT OF BYTES; words, bytes and what is put together.
-/
import Derived.Test.YtoocglckhphepaaGcmQ
import Derived.Test.YtoocglckhphepaaGcmK
import Derived.Test.YtoocglckhphepaaEq
namespace Go.Proofs.Ytoocglckhphepaa
open Go Go.RowKit Go.BigFrame
set_option maxRecDepth 100000
set_option linter.unusedSimpArgs false
theorem w2_of_byte (x : W2) : W2.of x.byte = x := by
  apply poly_inj
  apply BitVec.eq_of_getLsbD_eq
  intro i hi
  rw [of_bit _ i hi]
  unfold bitS
  rw [byte_bit _ _ _ (by omega) (by omega)]
  congr 1
  omega
theorem of_xor (f g : Nat → BitVec 8) : W2.of (fun i => f i ^^^ g i) = W2.xor (W2.of f) (W2.of g) := by
  apply poly_inj
  apply BitVec.eq_of_getLsbD_eq
  intro i hi
  rw [of_bit _ i hi, poly_xor, BitVec.getLsbD_xor, of_bit _ i hi, of_bit _ i hi]
  unfold bitS
  rw [BitVec.getLsbD_xor]
theorem byte_xor (x y : W2) (i : Nat) (hi : i < 16) : (W2.xor x y).byte i = x.byte i ^^^ y.byte i := by
  apply BitVec.eq_of_getLsbD_eq
  intro c hc
  rw [BitVec.getLsbD_xor, byte_bit _ _ _ hi hc, byte_bit _ _ _ hi hc, byte_bit _ _ _ hi hc, poly_xor, BitVec.getLsbD_xor]
theorem size_push2 (w : World) (a b : Obj) : ((w.alloc a).alloc b).heap.size = w.heap.size + 2 := by simp
theorem eq16_same (p : Nat → BitVec 8) (w : World) : (Op.equalIn 10000 22 (.agg (b16 p)) (.agg (b16 p))).run Try.prog w = .ok true w := by
  have h : (Op.equalIn 10000 22 (.agg (b16 p)) (.agg (b16 p))).run Try.prog w = .ok (allEq p p 16) w :=
    run_eq_bytes (P := Try.prog) (t := 22) (e := 5) (n := 16) p p w (by kernel_rfl) (by kernel_rfl) (by kernel_rfl) (by kernel_rfl) (by kernel_rfl)
  rw [h, (allEq_iff p p 16).2 (fun _ _ => rfl)]
theorem load_b16 {w : World} {k : Nat} {f : Nat → BitVec 8} (h : w.heap[k]? = some (.cells (b16 f) 22 (0, 0))) : (Instr.loadAt 22 (.pointer (some ⟨k, 0, none⟩))).run Try.prog w = .ok (.agg (b16 f)) w :=
  load16_any f k 0 w (fun i hi => by rw [Nat.zero_add, cell_of_row _ _ _ _ _ _ h]; exact b16_get f i hi)
theorem quiet_value {P : Program} {C : World → Prop} {o : Oper} {a : Act} {w : World} {v : Value} (h : (execOp a.eval o).run P w = .ok (.value v) w) : o.quietAt P a C w v := by
  unfold Oper.quietAt
  rw [h]
  exact ⟨rfl, rfl⟩
set_option maxHeartbeats 4000000 in
theorem gtimes_any (f g : Nat → BitVec 8) (w : World) :
    Calls Try.prog 6 #[.agg (b16 f), .agg (b16 g)] w fun e w' => e = .returned (.agg (b16 (W2.byte (W2.mul (W2.of f) (W2.of g))))) ∧ Below w.heap.size w w' := by
  have WF := Lib.hid (fun w' => wordsOf2_any f w')
  have WG := Lib.hid (fun w' => wordsOf2_any g w')
  obtain ⟨x, hx⟩ : ∃ x, W2.of f = x := ⟨_, rfl⟩
  obtain ⟨y, hy⟩ : ∃ y, W2.of g = y := ⟨_, rfl⟩
  obtain ⟨m, hm⟩ : ∃ m, W2.mul x y = m := ⟨_, rfl⟩
  rw [hx] at WF
  rw [hy] at WG
  rw [hx, hy, hm]
  have TM := Lib.hid (fun w' => times2_any x.hi x.lo y.hi y.lo w')
  rw [show (W2.mk x.hi x.lo) = x from rfl, show (W2.mk y.hi y.lo) = y from rfl, hm] at TM
  have BM := Lib.hid (fun w' => bytesOf2_any m.hi m.lo w')
  clear hx hy hm
  go_enter Try.func6, Try.ntmps6
  go_wp2_with (first
    | (refine wpList_alloc_row (o := ⟨some 4, .alloc 22, _, _, _, _⟩) rfl 22 rfl zeros16 zero_16 ?_)
    | fail)
  have r2 := rows_alloc w [.cells (b16 f) 22, .cells (b16 g) 22, .cells zeros16 22] 0
  have r3 := rows_alloc w [.cells (b16 f) 22, .cells (b16 g) 22, .cells zeros16 22] 1
  have r4 := rows_alloc w [.cells (b16 f) 22, .cells (b16 g) 22, .cells zeros16 22] 2
  have hb : Below w.heap.size w (((w.alloc (.cells (b16 f) 22)).alloc (.cells (b16 g) 22)).alloc (.cells zeros16 22)) := (((Below.refl w.heap.size w).alloc (Nat.le_refl _) _).alloc (by simp) _).alloc (by simp; omega) _
  simp only [List.foldl_cons, List.foldl_nil, Nat.add_zero] at r2 r3 r4
  simp only [size_push2, Act.put, List.setIfInBounds_toArray, List.set_cons_succ, List.set_cons_zero]
  generalize World.alloc _ _ = wa at *
  have R2 := Lib.hid (show wa.heap[w.heap.size]? = some (.cells (b16 f) 22 (0, 0)) from r2)
  have R3 := Lib.hid (show wa.heap[w.heap.size + 1]? = some (.cells (b16 g) 22 (0, 0)) from r3)
  have R4 := Lib.hid (show wa.heap[w.heap.size + 2]? = some (.cells zeros16 22 (0, 0)) from r4)
  have HB := Lib.hid hb
  generalize hq : w.heap.size = q at *
  have HS := Lib.hid hq
  clear r2 r3 r4 hb hq
  refine region_class1 6 (fun w' => Below wa.heap.size wa w') mixedOrders (by kernel_rfl) (Below.refl _ _).drew rfl ?_
  refine wpQuiet_take (by rfl) (fun K hK => ⟨.agg (b16 f), fun w2' hw2 => ?_, hK _ ?_⟩)
  · exact quiet_value (quiet_run (load_b16 ((hw2.block _ (lt_row R2.out)).trans R2.out)))
  clear hK K
  simp only [Act.put, List.setIfInBounds_toArray, List.set_cons_succ, List.set_cons_zero]
  refine wpQuiet_take (by rfl) (fun K hK => ⟨x.val, fun w2' hw2 => ?_, hK _ ?_⟩)
  · go_simp
    go_at_call 19
    with_reducible refine (WF.out w2').mono ?_
    rintro e w5 ⟨rfl, hb5⟩
    exact ⟨rfl, hw2.trans (hb5.mono hw2.size)⟩
  clear hK K
  simp only [Act.put, List.setIfInBounds_toArray, List.set_cons_succ, List.set_cons_zero]
  refine wpQuiet_take (by rfl) (fun K hK => ⟨.agg (b16 g), fun w2' hw2 => ?_, hK _ ?_⟩)
  · exact quiet_value (quiet_run (load_b16 ((hw2.block _ (lt_row R3.out)).trans R3.out)))
  clear hK K
  simp only [Act.put, List.setIfInBounds_toArray, List.set_cons_succ, List.set_cons_zero]
  refine wpQuiet_take (by rfl) (fun K hK => ⟨y.val, fun w2' hw2 => ?_, hK _ ?_⟩)
  · go_simp
    go_at_call 19
    with_reducible refine (WG.out w2').mono ?_
    rintro e w5 ⟨rfl, hb5⟩
    exact ⟨rfl, hw2.trans (hb5.mono hw2.size)⟩
  clear hK K
  simp only [Act.put, List.setIfInBounds_toArray, List.set_cons_succ, List.set_cons_zero]
  refine wpQuiet_take (by rfl) (fun K hK => ⟨m.val, fun w2' hw2 => ?_, hK _ ?_⟩)
  · go_simp
    go_at_call 18
    refine (TM.out w2').mono ?_
    rintro e w5 ⟨rfl, hb5⟩
    exact ⟨rfl, hw2.trans (hb5.mono hw2.size)⟩
  clear hK K
  simp only [Act.put, List.setIfInBounds_toArray, List.set_cons_succ, List.set_cons_zero]
  refine wpQuiet_take (by rfl) (fun K hK => ⟨.agg (b16 m.byte), fun w2' hw2 => ?_, hK _ ?_⟩)
  · go_simp
    go_at_call 17
    refine (BM.out w2').mono ?_
    rintro e w5 ⟨rfl, hb5⟩
    exact ⟨rfl, hw2.trans (hb5.mono hw2.size)⟩
  clear hK K
  simp only [Act.put, List.setIfInBounds_toArray, List.set_cons_succ, List.set_cons_zero]
  refine wpQuiet_take0 ?_
  intro w6 hb6
  have r4 := (hb6.block _ (lt_row R4.out)).trans R4.out
  refine wpList_store_row rfl 22 _ _ rfl (q + 2) 22 zeros16 (b16 m.byte) rfl rfl r4 (by kernel_rfl) (size_16 _) (b16_one _) ?_
  intro w7 rs
  simp only [Act.put]
  go_wp2_with fail
  exact ret_row (q + 2) 22 22 _ rfl (.array 16 5) rfl rs.row (by kernel_rfl) rfl (size_16 _) rfl ⟨rfl, by rw [HS.out]; exact (HB.out.trans (hb6.mono (by rw [← HS.out]; exact HB.out.size))).trans (rs.below q (by omega))⟩
end Go.Proofs.Ytoocglckhphepaa
