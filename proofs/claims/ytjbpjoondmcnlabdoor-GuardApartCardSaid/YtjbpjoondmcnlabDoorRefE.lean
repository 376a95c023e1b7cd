/-
  THE DOCUMENT'S ANSWER FOR aes, FIFTH PART: a block turned.
-/
import Derived.Test.YtjbpjoondmcnlabDoorRefD
import Derived.Test.YtjbpjoondmcnlabDoorMg04
set_option maxRecDepth 100000
namespace Go.Proofs.YtjbpjoondmcnlabDoor
open Go Go.RowKit Go.BigFrame
theorem str_get (f : Nat → BitVec 8) (n i : Nat) (h : i < n) : (strOf f n)[i]? = some (UInt8.ofBitVec (f i)) := by
  have hs : i < (strOf f n).size := by rw [strOf_size]; exact h
  rw [ByteArray.getElem?_lt' _ _ hs]
  congr 1
  show (strL f n).toArray[i]'_ = _
  simp [strL]
theorem str_at (f : Nat → BitVec 8) (n i : Nat) (h : i < (strOf f n).size) : (((strOf f n)[i]'h).toNat : Int) = n8 (f i) := by
  have h2 : i < n := by rwa [strOf_size] at h
  have h1 := str_get f n i h2
  rw [ByteArray.getElem?_lt' _ _ h] at h1
  injection h1 with h1
  rw [h1, ← n8_u8]
theorem run_at_str (f : Nat → BitVec 8) (n i : Nat) (h : i < n) (w : World) : (Instr.index 9 (.string (strOf f n)) (.int .i64 (i : Int))).run Tryd.prog w = .ok (.int .u8 (n8 (f i))) w := by
  have hu : Tryd.prog.underlying 9 = some .string := by kernel_rfl
  have hi := str_get f n i h
  have h0 : (0 : Int) ≤ (i : Int) := by omega
  unfold Instr.index
  simp only [Sem.run_bind, asIntOf, Sem.run_pure, Result.andThen_ok, run_underlying hu w, if_pos h0, Int.toNat_natCast, hi]
  rw [n8_u8]
theorem MyRow.other {w0 w : World} {q n : Nat} {T : TypeId} {f : Nat → BitVec 8} (h : MyRow w0 q n T f w) (t j : Nat) (v : Value) (ht : w0.heap.size ≤ t) (hne : q ≠ t) : MyRow w0 q n T f (w.setCell ⟨t, j, none⟩ v) :=
  ⟨h.below.setCell ht _, by rw [heap_setCell_other _ _ _ _ hne]; exact h.row, h.new⟩
theorem MyRow.drawn {w0 w : World} {q n : Nat} {T : TypeId} {f : Nat → BitVec 8} (h : MyRow w0 q n T f w) : MyRow w0 q n T f w.drew := ⟨h.below.drew, h.row, h.new⟩
theorem MyRow.key {w0 w : World} {q n p m : Nat} {T K : TypeId} {f g : Nat → BitVec 8} (h : MyRow w0 q n T f w) (hk : w0.heap[p]? = some (.cells (bytesArr g m) K (0, 0))) (i : Nat) (hi : i < m) :
    w.cell? ⟨p, i, none⟩ = some (.int .u8 (n8 (g i))) := by
  rw [h.below.cell (p := ⟨p, i, none⟩) (lt_of_heap hk), cell_of_row _ _ _ _ _ _ hk]; exact bytesArr_get _ _ _ hi
theorem under_16R : Tryd.prog.underlying 93 = some (.array 16 5) := by kernel_rfl
theorem size_b16 (g : Nat → BitVec 8) : (Tryd.prog.info? 93).map (·.size) = some (bytesArr g 16).size := by rw [bytesArr_size]; kernel_rfl
theorem bytes16_one (g : Nat → BitVec 8) : (bytesArr g 16).all (·.oneCell') = true := by simp [bytesArr, Value.oneCell']
/-- The state behind round r. -/
def stR (k : Nat → BitVec 8) (x : W4) (r : Nat) : W4 := if r = 10 then turned sbox (sched k) x else roundsTo sbox (sched k) x r
/-- A round ahead of the key: shifted, and mixed but in the last one. -/
def midR (k : Nat → BitVec 8) (x : W4) (r : Nat) : W4 := if r < 9 then ((stR k x r).shift sbox).mix else (stR k x r).shift sbox
theorem stR_next (k : Nat → BitVec 8) (x : W4) (r : Nat) (h : r < 10) : stR k x (r + 1) = (midR k x r).xor (kw (sched k) (r + 1)) := by
  unfold midR stR
  by_cases h9 : r < 9
  · rw [if_pos h9, if_neg (by omega), if_neg (by omega)]; rfl
  · obtain rfl : r = 9 := by omega
    rfl
set_option linter.unusedSimpArgs false in
set_option maxHeartbeats 8000000 in
set_option maxRecDepth 100000 in
theorem blockR_any (k b : Nat → BitVec 8) (p : Nat) (w : World) (hk : w.heap[p]? = some (.cells (bytesArr (keyF (kbyte k)) 432) 110 (0, 0))) :
    Calls Tryd.prog 46 #[.pointer (some ⟨p, 0, none⟩), .string (strOf b 16)] w fun e w' => e = .returned (.string (strOf (turned sbox (sched k) (W4.of b)).byte 16)) ∧ Below w.heap.size w w' := by
  go_enter Tryd.func46, Tryd.ntmps46
  go_wp2_with (refine wpList_alloc_row (o := ⟨some 5, .alloc 93, _, _, _, _⟩) rfl 93 rfl zeros16 zero_16 ?_)
  have st0 : MyRow w w.heap.size 16 93 (fun _ => 0#8) (w.alloc (.cells zeros16 93)) := by
    have h := MyRow.made (Below.refl w.heap.size w) (fun _ => 0#8) 16 93
    rw [← zeros_bytes] at h; exact h
  generalize hW : w.alloc _ = wa at *
  generalize hs : w.heap.size = s at *
  have Hs := Lib.hid hs
  have HK := Lib.hid hk
  clear hW hs hk
  go_loopw [6] (fun s6 wr => ∃ (i : Nat) (f : Nat → BitVec 8), i ≤ 16 ∧ s6 = .int .i64 (i : Int) ∧ MyRow w s 16 93 f wr ∧ (∀ j, j < i → f j = b j ^^^ kbyte k j))
    (fun s6 _ => 16 - (intOf s6).toNat)
  case atStart => exact ⟨0, _, by omega, rfl, st0, fun i hi => by omega⟩
  case round =>
    clear st0
    obtain ⟨i, f, hi, rfl, st, hf⟩ := hrel
    have F := Lib.hid hf
    clear hf
    by_cases hi16 : i < 16
    · have hiI : (i : Int) < 16 := by omega
      have hiK : (i : Int) < 176 := by omega
      have ix := run_at_str b 16 i hi16 wr.drew
      have c0 : wr.drew.cell? ⟨p, 256 + i, none⟩ = some (.int .u8 (n8 (kbyte k i))) := by
        have h := st.drawn.key HK.out (256 + i) (by omega)
        rw [keyF, if_neg (by omega), show 256 + i - 256 = i by omega] at h; exact h
      have c1 : wr.drew.cell? ⟨s, i, none⟩ = some (.int .u8 (n8 (f i))) := st.drawn.at i hi16
      have f1 : wr.drew.frozen? ⟨s, i, none⟩ = false := st.drawn.free i
      go_wp2_with fail
      refine region_head 12 mixedOrders (by kernel_rfl) ?_
      simp only [List.take_succ_cons, List.take_zero, List.drop_succ_cons, List.drop_zero]
      iterate 3 (go_big_quiet_step (fail))
      refine wpQuiet_run (.int .u8 (n8 (b i))) (by rfl) (fun w' hw' => by
        subst hw'
        show Sem.run _ (Instr.index 9 (.string (strOf b 16)) (.int .i64 (i : Int)) >>= fun v => pure (Next.value v)) _ = _
        rw [Sem.run_bind, ix]; rfl) ?_
      simp only [Act.put, List.setIfInBounds_toArray, List.set_cons_succ, List.set_cons_zero]
      repeat (go_big_quiet_step (fail))
      refine wpQuiet_nil ?_
      go_wp2_with fail
      have st5 := st.drawn.set i (b i ^^^ kbyte k i)
      go_roundw
      case rel =>
        refine ⟨i + 1, _, by omega, by go_num, st5, fun j hj => ?_⟩
        unfold updb
        by_cases hij : j = i
        · rw [if_pos hij, hij]
        · rw [if_neg hij]; exact F.out j (by omega)
      case measure => simp [intOf]; omega
    · obtain rfl : i = 16 := by omega
      have hf16 : ∀ j, j < 16 → f j = (stR k (W4.of b) 0).byte j := fun j hj => by
        rw [F.out j hj]
        show _ = ((W4.of b).xor (kw (sched k) 0)).byte j
        rw [xor_byte, of_byte _ _ hj, kw_byte _ _ _ hj, show 16 * 0 + j = j by omega]
      clear F
      generalize hx : W4.of b = x at *
      have HX := Lib.hid hx
      clear hx
      go_wp2_with fail
      go_loopw [7] (fun s7 wr => ∃ (r : Nat) (f : Nat → BitVec 8), r ≤ 10 ∧ s7 = .int .i64 ((r : Int) + 1) ∧ MyRow w s 16 93 f wr ∧ (∀ j, j < 16 → f j = (stR k x r).byte j))
        (fun s7 _ => 11 - (intOf s7).toNat)
      case atStart => exact ⟨0, f, by omega, rfl, st, hf16⟩
      case round =>
        clear st hf16 f
        obtain ⟨r, f, hr, rfl, st, hf⟩ := hrel
        have F := Lib.hid hf
        clear hf
        by_cases hr10 : r < 10
        · have hrI : (r : Int) + 1 ≤ 10 := by omega
          go_wp2_with (refine wpList_alloc_row (o := ⟨some 8, .alloc 93, _, _, _, _⟩) rfl 93 rfl zeros16 zero_16 ?_)
          have tt0 : MyRow w wr.heap.size 16 93 (fun _ => 0#8) (wr.alloc (.cells zeros16 93)) := by
            have h := MyRow.made st.below (fun _ => 0#8) 16 93
            rw [← zeros_bytes] at h; exact h
          have st1 := st.later ((Below.refl wr.heap.size wr).alloc (Nat.le_refl _) (.cells zeros16 93))
          have hst : s ≠ wr.heap.size := by have := st.lt; omega
          generalize hW : wr.alloc _ = wb at *
          generalize wr.heap.size = t at *
          clear hW st wr
          generalize hy : (stR k x r).shift sbox = y at *
          have HY := Lib.hid hy
          clear hy
          go_loopw [9] (fun s9 wr => ∃ (c : Nat) (g : Nat → BitVec 8), c ≤ 4 ∧ s9 = .int .i64 (c : Int) ∧ MyRow w s 16 93 f wr ∧ MyRow w t 16 93 g wr ∧ (∀ j, j < 4 * c → g j = y.byte j))
            (fun s9 _ => 4 - (intOf s9).toNat)
          case atStart => exact ⟨0, _, by omega, rfl, st1, tt0, fun i hi => by omega⟩
          case round =>
            clear tt0 st1 wb
            obtain ⟨c, g, hc, rfl, st, tt, hg⟩ := hrel
            have G := Lib.hid hg
            clear hg
            by_cases hc4 : c < 4
            · have hcI : (c : Int) < 4 := by omega
              go_wp2_with fail
              go_loopw [10] (fun s10 wr => ∃ (d : Nat) (g : Nat → BitVec 8), d ≤ 4 ∧ s10 = .int .i64 (d : Int) ∧ MyRow w s 16 93 f wr ∧ MyRow w t 16 93 g wr ∧ (∀ j, j < 4 * c + d → g j = y.byte j))
                (fun s10 _ => 4 - (intOf s10).toNat)
              case atStart => exact ⟨0, g, by omega, rfl, st, tt, G.out⟩
              case round =>
                clear tt st G g
                obtain ⟨d, g, hd, rfl, st, tt, hg⟩ := hrel
                have G := Lib.hid hg
                clear hg
                by_cases hd4 : d < 4
                · have hdI : (d : Int) < 4 := by omega
                  have w1 : IntKind.i64.wrap (4 * (c : Int)) = 4 * (c : Int) := by rw [IntKind.wrap_i64]; omega
                  have w2 : IntKind.i64.wrap (4 * (c : Int) + (d : Int)) = 4 * (c : Int) + (d : Int) := by rw [IntKind.wrap_i64]; omega
                  have w3 : IntKind.i64.wrap ((c : Int) + (d : Int)) = (c : Int) + (d : Int) := by rw [IntKind.wrap_i64]; omega
                  have a0 : (0 : Int) ≤ 4 * (c : Int) + (d : Int) := by omega
                  have b0 : 4 * (c : Int) + (d : Int) < 16 := by omega
                  have t0 : (4 * (c : Int) + (d : Int)).toNat = 4 * c + d := by omega
                  have c0 : wr.drew.cell? ⟨s, 4 * ((c + d) % 4) + d, none⟩ = some (.int .u8 (n8 (f (4 * ((c + d) % 4) + d)))) := st.drawn.at (4 * ((c + d) % 4) + d) (by omega)
                  generalize hv : f (4 * ((c + d) % 4) + d) = v at c0
                  have v0 : (0 : Int) ≤ n8 v := by rw [n8_nat]; omega
                  have v1 : n8 v < 256 := by rw [n8_nat]; have := v.isLt; omega
                  have v2 : (n8 v).toNat = v.toNat := by rw [n8_nat]; rfl
                  have c1 : wr.drew.cell? ⟨p, v.toNat, none⟩ = some (.int .u8 (n8 (sbox v.toNat))) := by
                    have h := st.drawn.key HK.out v.toNat (by have := v.isLt; omega)
                    rw [keyF, if_pos v.isLt] at h; exact h
                  have c2 : wr.drew.cell? ⟨t, 4 * c + d, none⟩ = some (.int .u8 (n8 (g (4 * c + d)))) := tt.drawn.at (4 * c + d) (by omega)
                  have f2 : wr.drew.frozen? ⟨t, 4 * c + d, none⟩ = false := tt.drawn.free (4 * c + d)
                  go_wp2_with fail
                  refine region_head 19 mixedOrders (by kernel_rfl) ?_
                  simp only [List.take_succ_cons, List.take_zero, List.drop_succ_cons, List.drop_zero]
                  repeat (go_big_quiet_step (fail))
                  refine wpQuiet_nil ?_
                  go_wp2_with fail
                  have tt5 := tt.drawn.set (4 * c + d) (sbox v.toNat)
                  have st5 := st.drawn.other t (4 * c + d) (.int .u8 (n8 (sbox v.toNat))) tt.new hst
                  go_roundw
                  case rel =>
                    refine ⟨d + 1, _, by omega, by go_num, st5, tt5, fun j hj => ?_⟩
                    unfold updb
                    by_cases hij : j = 4 * c + d
                    · rw [if_pos hij, hij, ← HY.out, shift_byte _ _ _ hc4 hd4, ← hv, F.out _ (by omega)]
                    · rw [if_neg hij]; exact G.out j (by omega)
                  case measure => simp [intOf]; omega
                · obtain rfl : d = 4 := by omega
                  go_wp2_with fail
                  refine ⟨⟨c + 1, g, by omega, by go_num, st, tt, fun j hj => G.out j (by omega)⟩, ?_⟩
                  simp [intOf]; omega
            · obtain rfl : c = 4 := by omega
              have hg : ∀ j, j < 16 → g j = y.byte j := G.out
              clear G
              by_cases hr9 : r < 9
              · have hr9I : (r : Int) + 1 < 10 := by omega
                have hm : midR k x r = y.mix := by unfold midR; rw [if_pos hr9, HY.out]
                have Row := Lib.hid tt.row
                go_upto_region 18 with (fail)
                go_step
                refine wpList_load_row (o := ⟨some 66, .load 93 _, _, _, _, _⟩) rfl 93 _ rfl t rfl 93 (bytesArr g 16) (0, 0) _ Row.out under_16R rfl (size_b16 g) ?_
                simp only [Act.put, List.setIfInBounds_toArray, List.set_cons_succ, List.set_cons_zero]
                refine wpList_alloc_row (o := ⟨some 11, .alloc 93, _, _, _, _⟩) rfl 93 rfl zeros16 zero_16 ?_
                simp only [Act.put, List.setIfInBounds_toArray, List.set_cons_succ, List.set_cons_zero]
                refine wpList_store_new (o := ⟨none, .store 93 (.tmp 11) (.tmp 66), _, _, _, _⟩) rfl 93 _ _ rfl zeros16 (bytesArr g 16) _ rfl rfl rfl (size_b16 g) (by kernel_rfl) (bytes16_one g) ?_
                simp only [Act.put, List.setIfInBounds_toArray, List.set_cons_succ, List.set_cons_zero]
                go_wp2_with fail
                have uu0 := MyRow.made st.below g 16 93
                have st1 := st.later ((Below.refl wr.heap.size wr).alloc (Nat.le_refl _) (.cells (bytesArr g 16) 93))
                have tt1 := tt.later ((Below.refl wr.heap.size wr).alloc (Nat.le_refl _) (.cells (bytesArr g 16) 93))
                have hsu : s ≠ wr.heap.size := by have := st.lt; omega
                have htu : t ≠ wr.heap.size := by have := tt.lt; omega
                generalize hW : wr.alloc _ = wb at *
                generalize wr.heap.size = u at *
                have G := Lib.hid hg
                clear hW st tt Row hg wr
                go_loopw [12] (fun s12 wr => ∃ (c : Nat) (h : Nat → BitVec 8), c ≤ 4 ∧ s12 = .int .i64 (c : Int) ∧ MyRow w s 16 93 f wr ∧ MyRow w t 16 93 h wr ∧ MyRow w u 16 93 g wr ∧ (∀ j, j < 4 * c → h j = (midR k x r).byte j))
                  (fun s12 _ => 4 - (intOf s12).toNat)
                case atStart => exact ⟨0, _, by omega, rfl, st1, tt1, uu0, fun i hi => by omega⟩
                case round =>
                  clear tt1 st1 uu0 wb
                  obtain ⟨c, h, hc, rfl, st, tt, uu, hh⟩ := hrel
                  have H := Lib.hid hh
                  clear hh
                  by_cases hc4 : c < 4
                  · have hcI : (c : Int) < 4 := by omega
                    go_wp2_with fail
                    go_loopw [13] (fun s13 wr => ∃ (d : Nat) (h : Nat → BitVec 8), d ≤ 4 ∧ s13 = .int .i64 (d : Int) ∧ MyRow w s 16 93 f wr ∧ MyRow w t 16 93 h wr ∧ MyRow w u 16 93 g wr ∧ (∀ j, j < 4 * c + d → h j = (midR k x r).byte j))
                      (fun s13 _ => 4 - (intOf s13).toNat)
                    case atStart => exact ⟨0, h, by omega, rfl, st, tt, uu, H.out⟩
                    case round =>
                      clear tt st uu H h
                      obtain ⟨d, h, hd, rfl, st, tt, uu, hh⟩ := hrel
                      have H := Lib.hid hh
                      clear hh
                      by_cases hd4 : d < 4
                      · have hdI : (d : Int) < 4 := by omega
                        have w1 : IntKind.i64.wrap (4 * (c : Int)) = 4 * (c : Int) := by rw [IntKind.wrap_i64]; omega
                        have w2 : IntKind.i64.wrap (4 * (c : Int) + (d : Int)) = 4 * (c : Int) + (d : Int) := by rw [IntKind.wrap_i64]; omega
                        have a0 : (0 : Int) ≤ 4 * (c : Int) + (d : Int) := by omega
                        have b0 : 4 * (c : Int) + (d : Int) < 16 := by omega
                        have t0 : (4 * (c : Int) + (d : Int)).toNat = 4 * c + d := by omega
                        have c0 : wr.drew.cell? ⟨u, 4 * c + d, none⟩ = some (.int .u8 (n8 (g (4 * c + d)))) := uu.drawn.at (4 * c + d) (by omega)
                        generalize hv0 : g (4 * c + d) = v0 at c0
                        have c1 : wr.drew.cell? ⟨u, 4 * c + (d + 1) % 4, none⟩ = some (.int .u8 (n8 (g (4 * c + (d + 1) % 4)))) := uu.drawn.at (4 * c + (d + 1) % 4) (by omega)
                        generalize hv1 : g (4 * c + (d + 1) % 4) = v1 at c1
                        have c2 : wr.drew.cell? ⟨u, 4 * c + (d + 2) % 4, none⟩ = some (.int .u8 (n8 (g (4 * c + (d + 2) % 4)))) := uu.drawn.at (4 * c + (d + 2) % 4) (by omega)
                        generalize hv2 : g (4 * c + (d + 2) % 4) = v2 at c2
                        have c3 : wr.drew.cell? ⟨u, 4 * c + (d + 3) % 4, none⟩ = some (.int .u8 (n8 (g (4 * c + (d + 3) % 4)))) := uu.drawn.at (4 * c + (d + 3) % 4) (by omega)
                        generalize hv3 : g (4 * c + (d + 3) % 4) = v3 at c3
                        have c4 : wr.drew.cell? ⟨t, 4 * c + d, none⟩ = some (.int .u8 (n8 (h (4 * c + d)))) := tt.drawn.at (4 * c + d) (by omega)
                        have f4 : wr.drew.frozen? ⟨t, 4 * c + d, none⟩ = false := tt.drawn.free (4 * c + d)
                        go_wp2_with fail
                        refine region_quiet mixedOrders (by kernel_rfl) ?_
                        repeat (go_big_quiet_step (fail))
                        refine wpQuiet_nil ?_
                        go_wp2_with fail
                        have V0 := Lib.hid hv0
                        have V1 := Lib.hid hv1
                        have V2 := Lib.hid hv2
                        have V3 := Lib.hid hv3
                        have ST := Lib.hid st
                        have TT := Lib.hid tt
                        have UU := Lib.hid uu
                        clear hv0 hv1 hv2 hv3 st tt uu c0 c1
                        replace c2 : wr.drew.drew.cell? ⟨u, 4 * c + (d + 2) % 4, none⟩ = some (.int .u8 (n8 v2)) := c2
                        replace c3 : wr.drew.drew.cell? ⟨u, 4 * c + (d + 3) % 4, none⟩ = some (.int .u8 (n8 v3)) := c3
                        replace c4 : wr.drew.drew.cell? ⟨t, 4 * c + d, none⟩ = some (.int .u8 (n8 (h (4 * c + d)))) := c4
                        replace f4 : wr.drew.drew.frozen? ⟨t, 4 * c + d, none⟩ = false := f4
                        have p2 : (0 : Int) ≤ 4 * (c : Int) + ((d : Int) + 2) % 4 := by omega
                        have q2 : 4 * (c : Int) + ((d : Int) + 2) % 4 < 16 := by omega
                        have r2 : (4 * (c : Int) + ((d : Int) + 2) % 4).toNat = 4 * c + (d + 2) % 4 := by omega
                        have p3 : (0 : Int) ≤ 4 * (c : Int) + ((d : Int) + 3) % 4 := by omega
                        have q3 : 4 * (c : Int) + ((d : Int) + 3) % 4 < 16 := by omega
                        have r3 : (4 * (c : Int) + ((d : Int) + 3) % 4).toNat = 4 * c + (d + 3) % 4 := by omega
                        have e2 : IntKind.i64.wrap ((d : Int) + 2) = (d : Int) + 2 := by rw [IntKind.wrap_i64]; omega
                        have m2 : ((d : Int) + 2).tmod 4 = ((d : Int) + 2) % 4 := Int.tmod_eq_emod_of_nonneg (by omega)
                        have s2 : IntKind.i64.wrap (4 * (c : Int) + ((d : Int) + 2) % 4) = 4 * (c : Int) + ((d : Int) + 2) % 4 := by rw [IntKind.wrap_i64]; omega
                        have e3 : IntKind.i64.wrap ((d : Int) + 3) = (d : Int) + 3 := by rw [IntKind.wrap_i64]; omega
                        have m3 : ((d : Int) + 3).tmod 4 = ((d : Int) + 3) % 4 := Int.tmod_eq_emod_of_nonneg (by omega)
                        have s3 : IntKind.i64.wrap (4 * (c : Int) + ((d : Int) + 3) % 4) = 4 * (c : Int) + ((d : Int) + 3) % 4 := by rw [IntKind.wrap_i64]; omega
                        have k2 : ∀ v, ((wr.setCell ⟨t, 4 * c + d, none⟩ v).drew.drew).cell? ⟨u, 4 * c + (d + 2) % 4, none⟩ = some (.int .u8 (n8 v2)) := fun v => by
                          have h := (UU.out.drawn.drawn.other t (4 * c + d) v TT.out.new htu.symm).at (4 * c + (d + 2) % 4) (by omega)
                          rw [V2.out] at h; exact h
                        have k3 : ∀ v, ((wr.setCell ⟨t, 4 * c + d, none⟩ v).drew.drew).cell? ⟨u, 4 * c + (d + 3) % 4, none⟩ = some (.int .u8 (n8 v3)) := fun v => by
                          have h := (UU.out.drawn.drawn.other t (4 * c + d) v TT.out.new htu.symm).at (4 * c + (d + 3) % 4) (by omega)
                          rw [V3.out] at h; exact h
                        go_region_held3 (fun w' => w'.cell? ⟨u, 4 * c + (d + 2) % 4, none⟩ = some (.int .u8 (n8 v2)) ∧ w'.cell? ⟨u, 4 * c + (d + 3) % 4, none⟩ = some (.int .u8 (n8 v3))) (first | assumption | exact ⟨c2, c3⟩ | exact ⟨k2 _, k3 _⟩) (first | (go_at_call 59; refine (twice_any _ _).mono ?_; rintro e w' ⟨rfl, rfl⟩) | fail)
                        go_wp2_with fail
                        have tt5 := TT.out.drawn.drawn.set (4 * c + d) (twiceR v0 ^^^ twiceR v1 ^^^ v1 ^^^ v2 ^^^ v3)
                        have st5 := ST.out.drawn.drawn.other t (4 * c + d) (.int .u8 (n8 (twiceR v0 ^^^ twiceR v1 ^^^ v1 ^^^ v2 ^^^ v3))) TT.out.new hst
                        have uu5 := UU.out.drawn.drawn.other t (4 * c + d) (.int .u8 (n8 (twiceR v0 ^^^ twiceR v1 ^^^ v1 ^^^ v2 ^^^ v3))) TT.out.new htu.symm
                        go_roundw
                        case rel =>
                          repeat (apply Exists.intro)
                          refine And.intro ?_ rfl
                          refine ⟨d + 1, _, by omega, by go_num, st5, tt5, uu5, fun j hj => ?_⟩
                          unfold updb
                          by_cases hij : j = 4 * c + d
                          · rw [if_pos hij, hij, hm, mix_byte _ _ _ hc4 hd4, ← V0.out, ← V1.out, ← V2.out, ← V3.out, G.out _ (by omega), G.out _ (by omega), G.out _ (by omega), G.out _ (by omega)]
                          · rw [if_neg hij]; exact H.out j (by omega)
                        case measure => simp [intOf]; omega
                      · obtain rfl : d = 4 := by omega
                        go_wp2_with fail
                        refine ⟨⟨c + 1, h, by omega, by go_num, st, tt, uu, fun j hj => H.out j (by omega)⟩, ?_⟩
                        simp [intOf]; omega
                  · obtain rfl : c = 4 := by omega
                    go_wp2_with fail
                    go_loopw [16] (fun s16 wr => ∃ (i : Nat) (f : Nat → BitVec 8), i ≤ 16 ∧ s16 = .int .i64 (i : Int) ∧ MyRow w s 16 93 f wr ∧ MyRow w t 16 93 h wr ∧ (∀ j, j < i → f j = (stR k x (r + 1)).byte j))
                      (fun s16 _ => 16 - (intOf s16).toNat)
                    case atStart => exact ⟨0, f, by omega, rfl, st, tt, fun i hi => by omega⟩
                    case round =>
                      clear tt st
                      obtain ⟨i, f, hi, rfl, st, tt, hf⟩ := hrel
                      have F := Lib.hid hf
                      clear hf
                      by_cases hi16 : i < 16
                      · have hiI : (i : Int) < 16 := by omega
                        have w1 : IntKind.i64.wrap (16 * ((r : Int) + 1)) = 16 * ((r : Int) + 1) := by rw [IntKind.wrap_i64]; omega
                        have w2 : IntKind.i64.wrap (16 * ((r : Int) + 1) + (i : Int)) = 16 * ((r : Int) + 1) + (i : Int) := by rw [IntKind.wrap_i64]; omega
                        have a0 : (0 : Int) ≤ 16 * ((r : Int) + 1) + (i : Int) := by omega
                        have b0 : 16 * ((r : Int) + 1) + (i : Int) < 176 := by omega
                        have t0 : (16 * ((r : Int) + 1) + (i : Int)).toNat = 16 * (r + 1) + i := by omega
                        have c0 : wr.drew.cell? ⟨p, 256 + (16 * (r + 1) + i), none⟩ = some (.int .u8 (n8 (kbyte k (16 * (r + 1) + i)))) := by
                          have h := st.drawn.key HK.out (256 + (16 * (r + 1) + i)) (by omega)
                          rw [keyF, if_neg (by omega), show 256 + (16 * (r + 1) + i) - 256 = 16 * (r + 1) + i by omega] at h; exact h
                        have c1 : wr.drew.cell? ⟨t, i, none⟩ = some (.int .u8 (n8 (h i))) := tt.drawn.at i hi16
                        have c2 : wr.drew.cell? ⟨s, i, none⟩ = some (.int .u8 (n8 (f i))) := st.drawn.at i hi16
                        have f2 : wr.drew.frozen? ⟨s, i, none⟩ = false := st.drawn.free i
                        go_wp2_with fail
                        refine region_head 15 mixedOrders (by kernel_rfl) ?_
                        simp only [List.take_succ_cons, List.take_zero, List.drop_succ_cons, List.drop_zero]
                        repeat (go_big_quiet_step (fail))
                        refine wpQuiet_nil ?_
                        go_wp2_with fail
                        have st5 := st.drawn.set i (h i ^^^ kbyte k (16 * (r + 1) + i))
                        have tt5 := tt.drawn.other s i (.int .u8 (n8 (h i ^^^ kbyte k (16 * (r + 1) + i)))) st.new hst.symm
                        go_roundw
                        case rel =>
                          refine ⟨i + 1, _, by omega, by go_num, st5, tt5, fun j hj => ?_⟩
                          unfold updb
                          by_cases hij : j = i
                          · rw [if_pos hij, hij, H.out i hi16, stR_next _ _ _ hr10, xor_byte, kw_byte _ _ _ hi16]
                          · rw [if_neg hij]; exact F.out j (by omega)
                        case measure => simp [intOf]; omega
                      · obtain rfl : i = 16 := by omega
                        go_wp2_with fail
                        go_roundw
                        case rel =>
                          repeat (apply Exists.intro)
                          refine And.intro ?_ rfl
                          exact ⟨r + 1, f, by omega, by go_num, st, F.out⟩
                        case measure => simp [intOf]; omega
              · replace hg : ∀ j, j < 16 → g j = (midR k x r).byte j := fun j hj => by
                  rw [hg j hj, ← HY.out]; unfold midR; rw [if_neg hr9]
                have G := Lib.hid hg
                clear hg
                go_wp2_with fail
                go_loopw [16] (fun s16 wr => ∃ (i : Nat) (f : Nat → BitVec 8), i ≤ 16 ∧ s16 = .int .i64 (i : Int) ∧ MyRow w s 16 93 f wr ∧ MyRow w t 16 93 g wr ∧ (∀ j, j < i → f j = (stR k x (r + 1)).byte j))
                  (fun s16 _ => 16 - (intOf s16).toNat)
                case atStart => exact ⟨0, f, by omega, rfl, st, tt, fun i hi => by omega⟩
                case round =>
                  clear tt st
                  obtain ⟨i, f, hi, rfl, st, tt, hf⟩ := hrel
                  have F := Lib.hid hf
                  clear hf
                  by_cases hi16 : i < 16
                  · have hiI : (i : Int) < 16 := by omega
                    have w1 : IntKind.i64.wrap (16 * ((r : Int) + 1)) = 16 * ((r : Int) + 1) := by rw [IntKind.wrap_i64]; omega
                    have w2 : IntKind.i64.wrap (16 * ((r : Int) + 1) + (i : Int)) = 16 * ((r : Int) + 1) + (i : Int) := by rw [IntKind.wrap_i64]; omega
                    have a0 : (0 : Int) ≤ 16 * ((r : Int) + 1) + (i : Int) := by omega
                    have b0 : 16 * ((r : Int) + 1) + (i : Int) < 176 := by omega
                    have t0 : (16 * ((r : Int) + 1) + (i : Int)).toNat = 16 * (r + 1) + i := by omega
                    have c0 : wr.drew.cell? ⟨p, 256 + (16 * (r + 1) + i), none⟩ = some (.int .u8 (n8 (kbyte k (16 * (r + 1) + i)))) := by
                      have h := st.drawn.key HK.out (256 + (16 * (r + 1) + i)) (by omega)
                      rw [keyF, if_neg (by omega), show 256 + (16 * (r + 1) + i) - 256 = 16 * (r + 1) + i by omega] at h; exact h
                    have c1 : wr.drew.cell? ⟨t, i, none⟩ = some (.int .u8 (n8 (g i))) := tt.drawn.at i hi16
                    have c2 : wr.drew.cell? ⟨s, i, none⟩ = some (.int .u8 (n8 (f i))) := st.drawn.at i hi16
                    have f2 : wr.drew.frozen? ⟨s, i, none⟩ = false := st.drawn.free i
                    go_wp2_with fail
                    refine region_head 15 mixedOrders (by kernel_rfl) ?_
                    simp only [List.take_succ_cons, List.take_zero, List.drop_succ_cons, List.drop_zero]
                    repeat (go_big_quiet_step (fail))
                    refine wpQuiet_nil ?_
                    go_wp2_with fail
                    have st5 := st.drawn.set i (g i ^^^ kbyte k (16 * (r + 1) + i))
                    have tt5 := tt.drawn.other s i (.int .u8 (n8 (g i ^^^ kbyte k (16 * (r + 1) + i)))) st.new hst.symm
                    go_roundw
                    case rel =>
                      refine ⟨i + 1, _, by omega, by go_num, st5, tt5, fun j hj => ?_⟩
                      unfold updb
                      by_cases hij : j = i
                      · rw [if_pos hij, hij, G.out i hi16, stR_next _ _ _ hr10, xor_byte, kw_byte _ _ _ hi16]
                      · rw [if_neg hij]; exact F.out j (by omega)
                    case measure => simp [intOf]; omega
                  · obtain rfl : i = 16 := by omega
                    go_wp2_with fail
                    go_roundw
                    case rel =>
                      repeat (apply Exists.intro)
                      refine And.intro ?_ rfl
                      exact ⟨r + 1, f, by omega, by go_num, st, F.out⟩
                    case measure => simp [intOf]; omega
        · obtain rfl : r = 10 := by omega
          have hcv := conv_str f s 0 16 16 wr (fun i hi => by rw [Nat.zero_add]; exact st.at i hi)
          go_wp2_with fail
          go_ret
          refine ⟨?_, Hs.out ▸ st.below⟩
          have e10 : stR k x 10 = turned sbox (sched k) x := by unfold stR; rw [if_pos rfl]
          rw [(strOf_eq f _ 16).2 F.out, e10, HX.out]
          rfl
end Go.Proofs.YtjbpjoondmcnlabDoor
