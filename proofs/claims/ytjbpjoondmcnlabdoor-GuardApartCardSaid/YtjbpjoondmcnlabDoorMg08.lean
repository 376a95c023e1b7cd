/-
  TEXTS PUT TOGETHER: HkdfA, HkdfB, HkdfC.
-/
import Derived.Test.YtjbpjoondmcnlabDoorMg06
import Derived.Test.YtjbpjoondmcnlabDoorMg07
set_option maxRecDepth 100000
/-
  hkdf: the blocks of Expand, as plain functions; make with room; append behind a row that is taken anew.
-/
namespace Go.Proofs.YtjbpjoondmcnlabDoor
open Go Go.RowKit Go.BigFrame
set_option linter.unusedSimpArgs false
set_option linter.unusedVariables false
/-- How many bytes stand ahead of the use in block i + 1. -/
def tl (i : Nat) : Nat := if i = 0 then 0 else 32
/-- The i-th block. -/
def tB (K g : Nat → BitVec 8) (n : Nat) : Nat → Nat → BitVec 8
  | 0 => fun _ => 0#8
  | i + 1 => macB K (joinb (joinb (tB K g n i) (tl i) g) (tl i + n) (fun _ => BitVec.ofNat 8 (i + 1))) (tl i + n + 1)
/-- All blocks, one behind the other. -/
def expB (K g : Nat → BitVec 8) (n j : Nat) : BitVec 8 := tB K g n (j / 32 + 1) (j % 32)
theorem tl_le (i : Nat) : tl i ≤ 32 := by unfold tl; split <;> omega
theorem tl_succ (i : Nat) : tl (i + 1) = 32 := by unfold tl; rw [if_neg (by omega)]
theorem expB_snoc (K g : Nat → BitVec 8) (n i k : Nat) (hk : k ≤ 32) (j : Nat) (hj : j < 32 * i + k) : joinb (expB K g n) (32 * i) (tB K g n (i + 1)) j = expB K g n j := by
  unfold joinb
  split
  · rfl
  · unfold expB
    rw [show j / 32 = i by omega, show j % 32 = j - 32 * i by omega]
/-- 'make([]byte, 0, c)'. -/
theorem run_make_cap (c : Nat) (hn : c ≤ 281474976710656) (w : World) :
    (Instr.makeSlice 31 (.int .i64 0) (.int .i64 (c : Int))).run Tryd.prog w = .ok (.slice (some ⟨w.heap.size, 0, none⟩) 0 c) (w.alloc (.cells (bytesArr (fun _ => 0#8) c) 5)) := by
  obtain ⟨i, hq, hz, hs, hb⟩ := info_u8'
  have h := run_make (P := Tryd.prog) w 31 5 i _ (by kernel_rfl) hq hz .i64 .i64 0 (c : Int) (by omega) (by omega) (by rw [hb]; omega) (by omega)
  rw [h, hs]
  have e : madeCells (Value.int .u8 0).cells (((c : Nat) : Int).toNat * 1) = bytesArr (fun _ => 0#8) c := by
    unfold madeCells bytesArr
    apply Array.ext_getElem?
    intro j
    have z : n8 0#8 = 0 := by unfold n8; rfl
    by_cases hj : j < c
    · simp [hj, Value.cells, z, Nat.mod_one]
    · simp [hj]
  rw [e]
  simp
theorem Own.of_room {B r c : Nat} {f g : Nat → BitVec 8} {w : World} (hB : B ≤ r) (hn : c ≤ maxLen) (h : w.heap[r]? = some (.cells (bytesArr g c) 5 (0, 0))) : Own B (.slice (some ⟨r, 0, none⟩) 0 c) 0 f w :=
  ⟨⟨rfl, .inr ⟨r, c, _, rfl, hB, h, Nat.zero_le _, hn, by rw [bytesArr_size, Nat.mul_one], rfl⟩⟩, by have := lt_of_heap h; omega⟩
/-- 's[:0]' of what one owns. -/
theorem Own.none {B n : Nat} {a : Option Addr} {c : Nat} {f g : Nat → BitVec 8} {w : World} (h : Own B (.slice a n c) n f w) : Own B (.slice a 0 c) 0 g w := by
  refine ⟨⟨rfl, ?_⟩, h.base⟩
  rcases h.row.2 with ⟨e, hn⟩ | ⟨r, cap, cur, e, hB, hg, hnc, hcm, hcs, ht⟩
  · injection e with e1 e2 e3
    subst e1; subst e3
    exact .inl ⟨rfl, rfl⟩
  · injection e with e1 e2 e3
    subst e1; subst e3
    exact .inr ⟨r, c, cur, rfl, hB, hg, Nat.zero_le _, hcm, hcs, rfl⟩
/-- Bytes that lie in a row from B on, and others of one's own in another row. -/
def Apart (v u : Value) : Prop := ∀ k, v.ownBlock = some k → u.ownBlock ≠ some k
theorem Apart.symm {v u : Value} (h : Apart v u) : Apart u v := fun k h1 h2 => h k h2 h1
theorem Apart.grown {B n : Nat} {v v' u : Value} {f : Nat → BitVec 8} {w w' : World} (h : Apart v u) (hg : GrownV w w' v v') (hu : Own B u n f w) : Apart v' u := by
  intro k hk he
  rcases hg.blk with e | ⟨j, e, hj⟩
  · exact h k (by rw [← e]; exact hk) he
  · rw [hk] at e
    injection e with e
    have := (hu.lt he).2
    omega
theorem Own.beside {B n : Nat} {v v' u : Value} {f : Nat → BitVec 8} {w w' : World} (h : Own B u n f w) (hg : GrownV w w' v v') (ha : Apart v u) : Own B u n f w' :=
  h.kept hg.grown (by
    cases hv : v.ownBlock with
    | none => exact .inr (.inl rfl)
    | some k => exact .inr (.inr (ha k hv)))
end Go.Proofs.YtjbpjoondmcnlabDoor
/-
  hkdf: Expand.
-/
namespace Go.Proofs.YtjbpjoondmcnlabDoor
open Go Go.RowKit Go.BigFrame
set_option linter.unusedSimpArgs false
set_option linter.unusedVariables false
theorem run_arr32_upto (w : World) (b k : Nat) (hk : k ≤ 32) : (Instr.sliceAt 103 (.pointer (some ⟨b, 0, none⟩)) none (some (.int .i64 (k : Int))) none).run Tryd.prog w = .ok (.slice (some ⟨b, 0, none⟩) k 32) w := by
  have h1 : (k : Int) ≤ 32 := by omega
  simp [go_sem, h1]
theorem expand_bad (m c n c' : Nat) (a a' : Option Addr) (x : Int) (hx : x < 0 ∨ 8160 < x) (w : World) :
    Calls Tryd.prog 83 #[.slice a m c, .slice a' n c', .int .i64 x] w fun e w' => e = .returned (.tuple #[.slice none 0 0, .int .i64 1]) ∧ w = w' := by
  go_enter Tryd.func83, Tryd.ntmps83
  rcases hx with h | h
  · go_wp2
    go_ret2
    exact ⟨rfl, rfl⟩
  · have h0 : ¬ x < 0 := by omega
    go_wp2
    go_ret2
    exact ⟨rfl, rfl⟩
set_option maxHeartbeats 16000000 in
set_option maxRecDepth 100000 in
theorem expand_ok (m c n c' N : Nat) (f g : Nat → BitVec 8) (a a' : Option Addr) (w : World) (T : TabK w) (hx : BytesIn w a m f) (hc : m ≤ c) (hcm : c ≤ maxLen) (hm : m ≤ 1000000) (hy : BytesIn w a' n g) (hc' : n ≤ c') (hcm' : c' ≤ maxLen) (hn : n ≤ 1000000) (hN : N ≤ 8160) :
    Calls Tryd.prog 83 #[.slice a m c, .slice a' n c', .int .i64 (N : Int)] w
      fun e w' => ∃ v, e = .returned (.tuple #[v, .int .i64 0]) ∧ Own w.heap.size v N (expB (keyB f m) g n) w' ∧ Below w.heap.size w w' := by
  obtain ⟨K, hK⟩ : ∃ K, keyB f m = K := ⟨_, rfl⟩
  rw [hK]
  have HK := Lib.hid hK
  obtain ⟨B, hB⟩ : ∃ B, w.heap.size = B := ⟨_, rfl⟩
  have HX := Lib.hid (fun (w' : World) (h : Below B w w') => bytesIn_ext hx (show Below w.heap.size w w' by rw [hB]; exact h))
  have HY := Lib.hid (fun (w' : World) (h : Below B w w') => bytesIn_ext hy (show Below w.heap.size w w' by rw [hB]; exact h))
  have TK := Lib.hid (fun (w' : World) (h : Below B w w') => T.later (show Below w.heap.size w w' by rw [hB]; exact h))
  clear hx hy T hK
  go_enter Tryd.func83, Tryd.ntmps83
  have h0 : ¬ (N : Int) < 0 := by omega
  have h1 : ¬ (8160 : Int) < (N : Int) := by omega
  have hmk := fun w' => run_make_cap N (by omega) w'
  go_upto_region 4 with fail
  have al1 : Below B w (w.alloc (.cells (bytesArr (fun _ => 0#8) N) 5)) := (Below.refl _ _).alloc (Nat.le_of_eq hB.symm) _
  have o8 : Own B (.slice (some ⟨w.heap.size, 0, none⟩) 0 N) 0 (expB K g n) (w.alloc (.cells (bytesArr (fun _ => 0#8) N) 5)) := Own.of_room (Nat.le_of_eq hB.symm) (by unfold maxLen; omega) (heap_alloc_last _ _)
  have sz1 : (w.alloc (.cells (bytesArr (fun _ => 0#8) N) 5)).heap.size = B + 1 := by rw [alloc_size, hB]
  obtain ⟨w1, hw1⟩ : ∃ w1, w.alloc (.cells (bytesArr (fun _ => 0#8) N) 5) = w1 := ⟨_, rfl⟩
  rw [hw1] at al1 o8 sz1
  rw [hB] at o8
  simp only [hw1, hB]
  clear hmk hw1
  have hmk2 := run_make_cap (32 + n + 1) (by omega) w1
  have e2 : ((32 + n + 1 : Nat) : Int) = 32 + (n : Int) + 1 := by omega
  rw [e2] at hmk2
  clear e2
  go_upto_region 5 with fail
  have al2 : Below w1.heap.size w1 (w1.alloc (.cells (bytesArr (fun _ => 0#8) (32 + n + 1)) 5)) := (Below.refl _ _).alloc (Nat.le_refl _) _
  have o9 : Own B (.slice (some ⟨w1.heap.size, 0, none⟩) 0 (32 + n + 1)) 0 (tB K g n 0) (w1.alloc (.cells (bytesArr (fun _ => 0#8) (32 + n + 1)) 5)) := Own.of_room (by omega) (by unfold maxLen; omega) (heap_alloc_last _ _)
  obtain ⟨w2, hw2⟩ : ∃ w2, w1.alloc (.cells (bytesArr (fun _ => 0#8) (32 + n + 1)) 5) = w2 := ⟨_, rfl⟩
  rw [hw2, sz1] at o9
  rw [hw2] at al2
  simp only [hw2, sz1]
  have ap : Apart (.slice (some ⟨B, 0, none⟩) 0 N) (.slice (some ⟨B + 1, 0, none⟩) 0 (32 + n + 1)) := fun k h1 h2 => by
    have e1 : B = k := by simpa [Value.ownBlock] using h1
    have e2 : B + 1 = k := by simpa [Value.ownBlock] using h2
    omega
  have O8 := Lib.hid (o8.later al2)
  have O9 := Lib.hid o9
  have AP := Lib.hid ap
  have BL := Lib.hid (al1.trans (al2.mono (by omega)))
  clear hmk2 hw2 al1 al2 o8 o9 ap sz1 h0 h1
  go_wp2_with fail
  go_loopw [8, 9, 10] (fun s8 s9 s10 wr => ∃ i : Nat, 32 * i < N + 32 ∧ s10 = .int .i64 ((i : Int) + 1) ∧ Own B s8 (min (32 * i) N) (expB K g n) wr ∧ Own B s9 (tl i) (tB K g n i) wr ∧ Apart s8 s9 ∧ Below B w wr) (fun _ _ s10 _ => N + 32 - 32 * (intOf s10).toNat)
  case atStart => exact ⟨0, by omega, rfl, by rw [show min (32 * 0) N = 0 by omega]; exact O8.out, O9.out, AP.out, BL.out⟩
  case round =>
    clear O8 O9 AP BL
    obtain ⟨i, hi, rfl, o8, o9, ap, bel⟩ := hrel
    have AP := Lib.hid ap
    have BEL := Lib.hid bel
    have O8 := Lib.hid o8
    have O9 := Lib.hid o9
    obtain ⟨a8, c8, rfl, hc8, hm8, bi8, _, hg8⟩ := o8.asMine
    obtain ⟨a9, c9, rfl, hc9, hm9, bi9, _, hg9⟩ := o9.asMine
    clear ap bel o8 o9 bi8 bi9 hg8 hg9
    by_cases hlt : 32 * i < N
    · obtain ⟨L, hL⟩ : ∃ L, min (32 * i) N = L := ⟨_, rfl⟩
      have hLi : L = 32 * i := by omega
      rw [hL] at O8 AP hc8 ⊢
      have hlI : (L : Int) < (N : Int) := by omega
      have HLT := Lib.hid hlt
      have hi255 : i ≤ 255 := by omega
      have HLI := Lib.hid hLi
      have hNw := BEL.out.size
      clear hLi hL hi hlt
      have x9 := Lib.hid (src_in (HY.out wr BEL.out) c')
      have hby : ((i : Int) + 1) % 256 = n8 (BitVec.ofNat 8 (i + 1)) := by rw [n8_nat, BitVec.toNat_ofNat]; omega
      have htl := tl_le i
      go_upto_region 9 with (first
        | (at_builtin; refine wpList_append_bytes (o := ⟨some 33, _, _, _, _, _⟩) rfl _ _ 31 rfl rfl rfl O9.out x9.out (by omega) ?_; intro v3 w3 o3 g3)
        | fail)
      have b3 := g3.below O9.out
      have O3 := Lib.hid o3
      have O83 := Lib.hid (O8.out.beside g3 AP.out.symm)
      have AP3 := Lib.hid (AP.out.symm.grown g3 O8.out)
      have B3 := Lib.hid (BEL.out.trans b3)
      clear o3 b3 g3 x9 O9 O8 AP BEL
      -- the number
      obtain ⟨wa, hwa⟩ : ∃ wa, w3.alloc (.cells #[.int .u8 (n8 (BitVec.ofNat 8 (i + 1)))] 5) = wa := ⟨_, rfl⟩
      have hal : Below w3.heap.size w3 wa := by rw [← hwa]; exact (Below.refl _ _).alloc (Nat.le_refl _) _
      have sr := src_one_new w3 (BitVec.ofNat 8 (i + 1))
      rw [hwa] at sr
      have SR := Lib.hid sr
      have O4 := Lib.hid (O3.out.later hal)
      have O84 := Lib.hid (O83.out.later hal)
      have B4 := Lib.hid (B3.out.trans (hal.mono (by have := B3.out.size; omega)))
      have HWA := Lib.hid hwa
      clear hal sr hwa O3 O83 B3
      go_upto_region 10 with (first
        | (at_builtin; simp only [HWA.out]; refine wpList_append_bytes (o := ⟨some 38, _, _, _, _, _⟩) rfl _ _ 31 rfl rfl rfl O4.out SR.out (by omega) ?_; intro v5 w5 o5 g5)
        | fail)
      have B5 := Lib.hid (B4.out.trans (g5.below O4.out))
      have O85 := Lib.hid (O84.out.beside g5 AP3.out)
      have AP5 := Lib.hid (AP3.out.grown g5 O84.out)
      have O5 := Lib.hid o5
      clear o5 g5 O4 O84 AP3 B4 SR HWA
      -- the block
      obtain ⟨a5, c5, rfl, hc5, hm5, bi5, hg5⟩ := O5.out.asMine
      clear hg5
      have MC := Lib.hid (mac_any m c (tl i + n + 1) c5 f (joinb (joinb (tB K g n i) (tl i) g) (tl i + n) (fun _ => BitVec.ofNat 8 (i + 1))) a a5 w5 (TK.out w5 B5.out) (HX.out w5 B5.out) hc hcm (by omega) bi5 hc5 hm5 (by omega))
      rw [HK.out] at MC
      have et : macB K (joinb (joinb (tB K g n i) (tl i) g) (tl i + n) (fun _ => BitVec.ofNat 8 (i + 1))) (tl i + n + 1) = tB K g n (i + 1) := rfl
      rw [et] at MC
      obtain ⟨t, ht⟩ : ∃ t, tB K g n (i + 1) = t := ⟨_, rfl⟩
      rw [ht] at MC
      have HT := Lib.hid ht
      clear et bi5 ht
      go_wp2_with fail
      with_reducible refine MC.out.mono ?_
      rintro e w6 ⟨rfl, hb6⟩
      have O6 := O5.out.later hb6
      have O86 := O85.out.later hb6
      have B6 := B5.out.trans (hb6.mono (by have := B5.out.size; omega))
      have hal : Below w6.heap.size w6 (w6.alloc (.cells (bytesA t 32) 103)) := (Below.refl _ _).alloc (Nat.le_refl _) _
      have hal2 : (w6.alloc (.cells (bytesA t 32) 103)).heap[w6.heap.size]? = some (.cells (bytesA t 32) 103 (0, 0)) := heap_alloc_last _ _
      go_upto_region 11 with (first
        | (refine wpList_alloc_row (o := ⟨some 11, .alloc 103, _, _, _, _⟩) rfl 103 rfl _ zero_32 ?_)
        | (refine wpList_store_new (o := ⟨none, .store 103 (.tmp 11) (.tmp 41), _, _, _, _⟩) rfl 103 _ _ rfl (bytesA (fun _ => 0#8) 32) (bytesA t 32) _ rfl rfl rfl (by rw [bytesA_size]; kernel_rfl) (by rw [bytesA_size, bytesA_size]) (bytesA_one _ _) ?_))
      have O7 := Lib.hid (O6.later hal)
      have O87 := Lib.hid (O86.later hal)
      have B7 := Lib.hid (B6.trans (hal.mono (by have := B6.size; omega)))
      have hq : B ≤ w6.heap.size := by have := B6.size; omega
      have ne8 : (Value.slice a8 L c8).ownBlock ≠ some w6.heap.size := fun e => by have := (O86.lt e).2; omega
      obtain ⟨w7, hw7⟩ : ∃ w7, w6.alloc (.cells (bytesA t 32) 103) = w7 := ⟨_, rfl⟩
      rw [hw7] at hal2 O7 O87 B7
      simp only [hw7]
      generalize w6.heap.size = q at *
      have RQ := Lib.hid hal2
      clear hal hal2 hw7 hb6 B6 O6 O86 MC O5 O85 B5
      -- onto what goes out
      have hmin : (if (N : Int) - (L : Int) < 32 then (N : Int) - (L : Int) else 32) = ((min 32 (N - L) : Nat) : Int) := by
        by_cases h : N - L < 32
        · rw [if_pos (by omega)]; omega
        · rw [if_neg (by omega)]; omega
      obtain ⟨k, hk⟩ : ∃ k, min 32 (N - L) = k := ⟨_, rfl⟩
      have hk32 : k ≤ 32 := by omega
      have hkL : L + k ≤ N := by omega
      have HKD := Lib.hid hk
      rw [hk] at hmin
      have hsl := fun w' => run_arr32_upto w' q k hk32
      have SR := Lib.hid (src_in (row_bytesIn RQ.out k hk32 (by unfold maxLen; omega)) 32)
      clear hk
      go_upto_region 12 with (first
        | (at_builtin; refine wpList_append_bytes (o := ⟨some 49, _, _, _, _, _⟩) rfl _ _ 31 rfl rfl rfl O87.out SR.out (by omega) ?_; intro v8 w8 o8 g8)
        | fail)
      have B8 := Lib.hid (B7.out.trans (g8.below O87.out))
      have O78 := Lib.hid (O7.out.beside g8 AP5.out.symm)
      have AP8 := Lib.hid (AP5.out.symm.grown g8 O7.out)
      have RQ8 := Lib.hid ((g8.block (lt_row RQ.out) ne8).trans RQ.out)
      have O8 := Lib.hid o8
      clear o8 g8 hsl SR hmin B7 O7 O87 AP5 RQ
      refine region_class 3 (fun w' => Below w8.heap.size w8 w') mixedOrders (by kernel_rfl) (Below.refl _ _).drew ?_
      refine wpQuiet_take (by rfl) (fun K hK => ⟨.slice a5 (tl i + n + 1) c5, fun w2' hw2 => ?_, hK _ ?_⟩)
      · clear hw2; go_simp
      clear hK K
      simp only [Act.put, List.setIfInBounds_toArray, List.set_cons_succ, List.set_cons_zero]
      refine wpQuiet_take (by rfl) (fun K hK => ⟨.slice a5 0 c5, fun w2' hw2 => ?_, hK _ ?_⟩)
      · have hs := run_upto w2' a5 0 (tl i + n + 1) c5 (Nat.zero_le _) hc5
        clear hw2
        go_simp
      clear hK K
      simp only [Act.put, List.setIfInBounds_toArray, List.set_cons_succ, List.set_cons_zero]
      refine wpQuiet_take (by rfl) (fun K hK => ⟨.slice (some ⟨q, 0, none⟩) 32 32, fun w2' hw2 => ?_, hK _ ?_⟩)
      · have hall := run_arr32_all w2' q
        clear hw2
        go_simp
      clear hK K
      simp only [Act.put, List.setIfInBounds_toArray, List.set_cons_succ, List.set_cons_zero]
      refine wpQuiet_take0 ?_
      intro w9 hb9
      simp only [List.drop_succ_cons, List.drop_zero]
      have O99 := Lib.hid ((Own.none (g := fun _ => 0#8) O78.out).later hb9)
      have O89 := Lib.hid (O8.out.later hb9)
      have RQ9 := (hb9.block q (lt_row RQ8.out)).trans RQ8.out
      have SR := Lib.hid (src_in (row_bytesIn RQ9 32 (Nat.le_refl _) (by unfold maxLen; omega)) 32)
      have B9 := Lib.hid (B8.out.trans (hb9.mono (by have := B8.out.size; omega)))
      have AP9 : Hid (Apart (.slice a5 0 c5) v8) := Lib.hid (fun k h1 => AP8.out.symm k (by cases a5 <;> simp [Value.ownBlock] at h1 ⊢ <;> exact h1))
      clear hb9 RQ9 B8 O78 O8 RQ8
      go_wp2_with (first
        | (at_builtin; refine wpList_append_bytes (o := ⟨some 53, _, _, _, _, _⟩) rfl _ _ 31 rfl rfl rfl O99.out SR.out (by omega) ?_; intro vx wx ox gx; have OX := Lib.hid ox; have GX := Lib.hid gx; clear ox gx)
        | fail)
      go_roundw
      case rel =>
        have hL := HLI.out
        have hk := HKD.out
        have hlt := HLT.out
        have oy := O89.out.beside GX.out AP9.out
        have ap := AP9.out.grown GX.out O89.out
        have bx := B9.out.trans (GX.out.below O99.out)
        have ox := OX.out
        subst hL
        refine ⟨i + 1, by omega, by go_num, ?_, ?_, ap.symm, bx⟩
        · rw [show min (32 * (i + 1)) N = 32 * i + k by omega]
          refine oy.congr (fun j hj => ?_)
          rw [← HT.out]
          exact expB_snoc K g n i k hk32 j hj
        · rw [tl_succ]
          rw [joinb_zero, Nat.zero_add] at ox
          rw [HT.out]
          exact ox
      case measure =>
        have hlt := HLT.out
        simp [intOf]
        omega
    · have hmin : min (32 * i) N = N := by omega
      rw [hmin] at O8 hc8 ⊢
      have hlI : ¬ (N : Int) < (N : Int) := by omega
      go_wp2_with fail
      go_ret2
      exact ⟨.slice a8 N c8, rfl, O8.out, BEL.out⟩
end Go.Proofs.YtjbpjoondmcnlabDoor
/-
  hkdf: Extract; a row that '[]byte(text)' marks.
-/
namespace Go.Proofs.YtjbpjoondmcnlabDoor
open Go Go.RowKit Go.BigFrame
set_option linter.unusedSimpArgs false
set_option linter.unusedVariables false
theorem freeze_new (w : World) (C : Array Value) (e : TypeId) (n : Nat) : (w.alloc (.cells C e)).freeze ⟨w.heap.size, n, none⟩ 1 = w.alloc (.cells C e (n, n + 1)) := by
  have hm : ∀ (a : Array Obj) (x : Obj) (f : Obj → Obj), (a.push x).modify a.size f = a.push (f x) := by
    intro a x f
    apply Array.ext
    · simp
    · intro i h1 h2
      simp only [Array.getElem_modify, Array.getElem_push]
      by_cases h : a.size = i
      · subst h
        simp
      · have hi : i < a.size := by simp at h1; omega
        simp [h, hi]
  unfold World.freeze
  rw [if_neg (by decide)]
  show ({ w.alloc (.cells C e) with heap := (w.heap.push (.cells C e)).modify w.heap.size _ } : World) = _
  rw [hm]
  rfl
theorem conv_same (w : World) (C : Array Value) (e : TypeId) (n c : Nat) : (convert 31 31 (.slice (some ⟨w.heap.size, 0, none⟩) n c)).run Tryd.prog (w.alloc (.cells C e)) = .ok (.slice (some ⟨w.heap.size, 0, none⟩) n c) (w.alloc (.cells C e (C.size, C.size + 1))) := by
  have hu : Tryd.prog.underlying 31 = some (.slice 5) := by kernel_rfl
  have h8 : Tryd.prog.underlying 5 = some (.int .u8) := by kernel_rfl
  have hsh : (w.alloc (.cells C e)).shape? w.heap.size = some (e, C.size) := by
    unfold World.shape?
    rw [show (w.alloc (.cells C e)).heap[w.heap.size]? = some (.cells C e) from heap_alloc_last _ _]
  have h1 : (convert 31 31 (.slice (some ⟨w.heap.size, 0, none⟩) n c)).run Tryd.prog (w.alloc (.cells C e)) = .ok (.slice (some ⟨w.heap.size, 0, none⟩) n c) ((w.alloc (.cells C e)).freeze ⟨w.heap.size, C.size, none⟩ 1) := by
    unfold convert
    simp only [Sem.run_bind, run_underlying hu, Result.andThen_ok, run_underlying h8]
    simp [markStringish, hsh, Sem.run_bind, run_underlying h8]
  rw [h1, freeze_new]
theorem bytesA_one1 (x : BitVec 8) : bytesA (fun _ => x) 1 = #[.int .u8 (n8 x)] := rfl
theorem one_in {w : World} {p : Nat} {T : TypeId} {fr : Nat × Nat} (x : BitVec 8) (k : Int) (k' : Int) (hx : n8 x = k') (h : w.heap[p]? = some (.cells #[.int .u8 k'] T fr)) : BytesIn w (some ⟨p, 0, none⟩) 1 (fun _ => x) :=
  ⟨by unfold maxLen; omega, .inr ⟨p, 0, rfl, lt_of_heap h, fun i hi => by
    obtain rfl : i = 0 := by omega
    rw [cell_of_row _ _ _ _ _ _ h, hx]; rfl⟩⟩
theorem nil_in (f : Nat → BitVec 8) (w : World) : BytesIn w none 0 f := ⟨Nat.zero_le _, .inl rfl⟩
set_option maxRecDepth 100000 in
theorem extract_any (m c n c' : Nat) (f g : Nat → BitVec 8) (a a' : Option Addr) (w : World) (T : TabK w) (hx : BytesIn w a m f) (hc : m ≤ c) (hcm : c ≤ maxLen) (hm : m ≤ 1000000) (hy : BytesIn w a' n g) (hc' : n ≤ c') (hcm' : c' ≤ maxLen) (hn : n ≤ 1000000) :
    Calls Tryd.prog 41 #[.slice a m c, .slice a' n c'] w fun e w' => ∃ b, e = .returned (.slice (some ⟨b, 0, none⟩) 32 32) ∧ w.heap.size ≤ b ∧ w'.heap[b]? = some (.cells (bytesA (macB (keyB f m) g n) 32) 103 (0, 0)) ∧ Below w.heap.size w w' := by
  have MC := Lib.hid (mac_any m c n c' f g a a' w T hx hc hcm (by omega) hy hc' hcm' (by omega))
  obtain ⟨t, ht⟩ : ∃ t, macB (keyB f m) g n = t := ⟨_, rfl⟩
  rw [ht] at MC ⊢
  clear hx hy T ht
  go_enter Tryd.func41, Tryd.ntmps41
  go_wp2_with fail
  with_reducible refine MC.out.mono ?_
  rintro e w1 ⟨rfl, hb1⟩
  have hal : Below w1.heap.size w1 (w1.alloc (.cells (bytesA t 32) 103)) := (Below.refl _ _).alloc (Nat.le_refl _) _
  have hal2 : (w1.alloc (.cells (bytesA t 32) 103)).heap[w1.heap.size]? = some (.cells (bytesA t 32) 103 (0, 0)) := heap_alloc_last _ _
  go_upto_region 2 with (first
    | (refine wpList_alloc_row (o := ⟨some 5, .alloc 103, _, _, _, _⟩) rfl 103 rfl _ zero_32 ?_)
    | (refine wpList_store_new (o := ⟨none, .store 103 (.tmp 5) (.tmp 8), _, _, _, _⟩) rfl 103 _ _ rfl (bytesA (fun _ => 0#8) 32) (bytesA t 32) _ rfl rfl rfl (by rw [bytesA_size]; kernel_rfl) (by rw [bytesA_size, bytesA_size]) (bytesA_one _ _) ?_))
  have B1 := Lib.hid (hb1.trans (hal.mono hb1.size))
  have S1 := Lib.hid hb1.size
  obtain ⟨w2, hw2⟩ : ∃ w2, w1.alloc (.cells (bytesA t 32) 103) = w2 := ⟨_, rfl⟩
  rw [hw2] at hal2 B1
  simp only [hw2]
  have R := Lib.hid hal2
  have hall := fun w' => run_arr32_all w' w1.heap.size
  clear hal hal2 hw2 hb1 MC
  generalize w1.heap.size = q at *
  go_wp2_with fail
  go_ret
  exact ⟨q, rfl, S1.out, R.out, B1.out⟩
end Go.Proofs.YtjbpjoondmcnlabDoor
