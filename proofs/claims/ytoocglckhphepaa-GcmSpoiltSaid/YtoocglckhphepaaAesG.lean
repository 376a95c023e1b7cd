/-
  THE CALLS OF PACKAGE aes, SEVENTH PART: a key made ready.
-/
import Derived.Test.YtoocglckhphepaaBytes
import Derived.Test.YtoocglckhphepaaAesD
import Derived.Test.YtoocglckhphepaaAesF
namespace Go.Proofs.Ytoocglckhphepaa
open Go Go.RowKit Go.BigFrame
set_option maxRecDepth 100000
def rcon : Nat → BitVec 8
  | 0 => 1#8
  | r + 1 => (dbl ((rcon r).setWidth 32)).setWidth 8
/-- The words of round r. -/
def keyAt (b : Nat → BitVec 8) : Nat → W4
  | 0 => W4.of b
  | r + 1 => W4.next sbox (keyAt b r) (rcon r)
def W4.word (x : W4) (j : Nat) : BitVec 32 := match j with | 0 => x.a | 1 => x.b | 2 => x.c | _ => x.d
def sched (b : Nat → BitVec 8) (i : Nat) : BitVec 32 := (keyAt b (i / 4)).word (i % 4)
def upd (ks : Nat → BitVec 32) (j : Nat) (x : BitVec 32) : Nat → BitVec 32 := fun i => if i = j then x else ks i
def upd4 (ks : Nat → BitVec 32) (r : Nat) (x : W4) : Nat → BitVec 32 := upd (upd (upd (upd ks (r * 4) x.a) (r * 4 + 1) x.b) (r * 4 + 2) x.c) (r * 4 + 3) x.d
theorem cells44_set (ks : Nat → BitVec 32) (j : Nat) (x : BitVec 32) : (cells44 ks).toArray.setIfInBounds j (.int .u32 (n32 x)) = (cells44 (upd ks j x)).toArray := by
  apply Array.ext_getElem?
  intro i
  rw [Array.getElem?_setIfInBounds]
  by_cases hij : j = i
  · subst hij
    by_cases hi : j < 44
    · simp [cells44, hi, upd]
    · simp [cells44, hi]
  · rw [if_neg hij]
    by_cases hi : i < 44
    · have : ¬ i = j := fun h => hij h.symm
      simp [cells44, hi, upd, this]
    · simp [cells44, hi]
/-- Block p holds the words ks, block q what stands for each byte; nothing below p has turned. -/
structure KeySt (w0 : World) (p q : Nat) (ks : Nat → BitVec 32) (w : World) : Prop where
  below : Below p w0 w
  row : w.heap[p]? = some (.cells (cells44 ks).toArray 73 (0, 0))
  box : w.heap[q]? = some (.cells sboxCells 74 (0, 0))
  apart : p ≠ q
theorem KeySt.later {w0 w w1 : World} {p q : Nat} {ks : Nat → BitVec 32} (h : KeySt w0 p q ks w) (hb : Below w.heap.size w w1) : KeySt w0 p q ks w1 :=
  ⟨h.below.trans (hb.mono (Nat.le_of_lt (lt_of_heap h.row))), by rw [hb.block _ (lt_of_heap h.row)]; exact h.row, by rw [hb.block _ (lt_of_heap h.box)]; exact h.box, h.apart⟩
theorem KeySt.key {w0 w : World} {p q : Nat} {ks : Nat → BitVec 32} (h : KeySt w0 p q ks w) (i : Nat) (hi : i < 44) : w.cell? ⟨p, i, none⟩ = some (.int .u32 (n32 (ks i))) := by
  rw [cell_of_row _ _ _ _ _ _ h.row]
  simp [cells44, hi]
theorem KeySt.sub {w0 w : World} {p q : Nat} {ks : Nat → BitVec 32} (h : KeySt w0 p q ks w) (i : Nat) (hi : i < 256) : w.cell? ⟨q, i, none⟩ = some (.int .u8 (n8 (sbox i))) := by
  rw [cell_of_row _ _ _ _ _ _ h.box]
  exact sboxCells_get i hi
theorem KeySt.free {w0 w : World} {p q : Nat} {ks : Nat → BitVec 32} (h : KeySt w0 p q ks w) (i : Nat) : w.frozen? ⟨p, i, none⟩ = false := frozen_of_row _ _ _ _ _ h.row
theorem KeySt.set {w0 w : World} {p q : Nat} {ks : Nat → BitVec 32} (h : KeySt w0 p q ks w) (j : Nat) (x : BitVec 32) : KeySt w0 p q (upd ks j x) (w.setCell ⟨p, j, none⟩ (.int .u32 (n32 x))) :=
  ⟨h.below.setCell (Nat.le_refl _) _, by rw [heap_setCell_same _ _ _ _ _ _ h.row, cells44_set], by rw [heap_setCell_other _ _ _ _ (Ne.symm h.apart)]; exact h.box, h.apart⟩
theorem KeySt.sets {w0 w : World} {p q : Nat} {ks : Nat → BitVec 32} (h : KeySt w0 p q ks w) (r : Nat) (y : W4) :
    KeySt w0 p q (upd4 ks r y) ((((w.setCell ⟨p, r * 4, none⟩ (.int .u32 (n32 y.a))).setCell ⟨p, r * 4 + 1, none⟩ (.int .u32 (n32 y.b))).setCell ⟨p, r * 4 + 2, none⟩ (.int .u32 (n32 y.c))).setCell ⟨p, r * 4 + 3, none⟩ (.int .u32 (n32 y.d))) :=
  (((h.set _ y.a).set _ y.b).set _ y.c).set _ y.d
theorem KeySt.drew {w0 w : World} {p q : Nat} {ks : Nat → BitVec 32} (h : KeySt w0 p q ks w) : KeySt w0 p q ks w.drew := ⟨h.below.drew, h.row, h.box, h.apart⟩
theorem KeySt.congr {w0 w : World} {p q : Nat} {ks ls : Nat → BitVec 32} (h : KeySt w0 p q ks w) (e : ∀ i, i < 44 → ks i = ls i) : KeySt w0 p q ls w :=
  ⟨h.below, by
    have : cells44 ks = cells44 ls := List.map_congr_left fun i hi => by rw [e i (List.mem_range.1 hi)]
    rw [← this]; exact h.row, h.box, h.apart⟩
/-- The first words are the schedule's. -/
def Sched (b : Nat → BitVec 8) (n : Nat) (ks : Nat → BitVec 32) : Prop := ∀ i, i < n * 4 → ks i = sched b i
theorem Sched.step {b : Nat → BitVec 8} {n : Nat} {ks : Nat → BitVec 32} (h : Sched b n ks) : Sched b (n + 1) (upd4 ks n (keyAt b n)) := fun i hi => by
  have hd : n * 4 ≤ i → i / 4 = n := fun h => by omega
  unfold upd4 upd sched
  by_cases h3 : i = n * 4 + 3
  · rw [if_pos h3, hd (by omega), show i % 4 = 3 by omega]; rfl
  rw [if_neg h3]
  by_cases h2 : i = n * 4 + 2
  · rw [if_pos h2, hd (by omega), show i % 4 = 2 by omega]; rfl
  rw [if_neg h2]
  by_cases h1 : i = n * 4 + 1
  · rw [if_pos h1, hd (by omega), show i % 4 = 1 by omega]; rfl
  rw [if_neg h1]
  by_cases h0 : i = n * 4
  · rw [if_pos h0, hd (by omega), show i % 4 = 0 by omega]; rfl
  rw [if_neg h0]
  exact h i (by omega)
theorem Sched.kw {b : Nat → BitVec 8} {n r : Nat} {ks : Nat → BitVec 32} (h : Sched b n ks) (hr : r < n) : (⟨ks (r * 4), ks (r * 4 + 1), ks (r * 4 + 2), ks (r * 4 + 3)⟩ : W4) = keyAt b r := by
  rw [h _ (by omega), h _ (by omega), h _ (by omega), h _ (by omega)]
  unfold sched
  rw [show r * 4 / 4 = r by omega, show (r * 4 + 1) / 4 = r by omega, show (r * 4 + 2) / 4 = r by omega, show (r * 4 + 3) / 4 = r by omega,
    show r * 4 % 4 = 0 by omega, show (r * 4 + 1) % 4 = 1 by omega, show (r * 4 + 2) % 4 = 2 by omega, show (r * 4 + 3) % 4 = 3 by omega]
  rfl
theorem array_16 (a : Option Addr) (c : Nat) (w : World) : (Instr.arrayAt 22 (.slice a 16 c)).run Try.prog w = .ok (.pointer a) w :=
  run_arrayAt _ _ _ _ _ _ _ (show Try.prog.underlying 22 = some (.array 16 5) from by kernel_rfl) (Nat.le_refl _)
attribute [go_sem] array_16
set_option maxHeartbeats 1000000 in
theorem new_bad (a : Option Addr) (n c : Nat) (w : World) (hn : n ≠ 16) :
    Calls Try.prog 21 #[.slice a n c] w fun e w' => e = .returned (.tuple #[.pointer none, .int .i64 1]) ∧ w = w' := by
  have h1 : ((n : Int) != 16) = true := by rw [bne_iff_ne]; omega
  have h2 : ((n : Int) == 16) = false := beq_eq_false_iff_ne.2 (by omega)
  go_enter Try.func21, Try.ntmps21
  go_wp2_with fail
  go_ret2
  exact ⟨rfl, rfl⟩
set_option maxHeartbeats 4000000 in
set_option maxRecDepth 100000 in
theorem new_ok (b : Nat → BitVec 8) (kb ko c : Nat) (w : World) (hb : ∀ i, i < 16 → w.cell? ⟨kb, ko + i, none⟩ = some (.int .u8 (n8 (b i)))) (hkb : kb < w.heap.size) :
    Calls Try.prog 21 #[.slice (some ⟨kb, ko, none⟩) 16 c] w fun e w' => e = .returned (.tuple #[.pointer (some ⟨w.heap.size, 0, none⟩), .int .i64 0]) ∧ ∃ q, KeySt w w.heap.size q (sched b) w' := by
  go_enter Try.func21, Try.ntmps21
  go_wp2_with (first
    | (refine wpList_run (o := ⟨some 11, .build 73 _, _, _, _, _⟩) (v := .agg zeros44.toArray) (w' := w) rfl (by kernel_rfl) ?_)
    | (go_at_call 30; refine (substitutes_any _).mono ?_; rintro e w1 ⟨rfl, hb1⟩)
    | (refine wpList_alloc_row (o := ⟨some 5, .alloc 74, _, _, _, _⟩) rfl 74 rfl zeros256 zero_256 ?_)
    | (refine wpList_store_new (o := ⟨none, .store 74 (.tmp 5) (.tmp 13), _, _, _, _⟩) rfl 74 _ _ rfl zeros256 sboxCells _ rfl rfl rfl size_256 (by kernel_rfl) sboxCells_one ?_))
  have st0 : KeySt w w.heap.size w1.heap.size (fun _ => 0#32) (w1.alloc (.cells sboxCells 74)) := by
    have hs : w.heap.size + 1 ≤ w1.heap.size := by have := hb1.size; simpa using this
    have h0 : w1.heap[w.heap.size]? = some (.cells (cells44 fun _ => 0#32).toArray 73 (0, 0)) := by
      rw [hb1.block _ (by simp), ← zeros44_eq]; exact heap_alloc_last _ _
    refine ⟨(((Below.refl _ _).alloc (Nat.le_refl _) _).trans (hb1.mono (by simp))).alloc (by omega) _, ?_, heap_alloc_last _ _, by omega⟩
    rw [Below.heap_alloc _ _ _ (by omega)]; exact h0
  generalize hq : w1.heap.size = q at *
  generalize hW : w1.alloc _ = wa at *
  clear hq hW hb1
  simp only [Act.put, List.setIfInBounds_toArray, List.set_cons_succ, List.set_cons_zero]
  have sc0 : Sched b 0 (fun _ => 0#32) := fun i hi => by omega
  have kaddr : kb < w.heap.size := hkb
  have facts : ∀ w', Below wa.heap.size wa w' → w'.cell? ⟨kb, ko, none⟩ = some (.int .u8 (n8 (b 0))) ∧ ∀ i, i < 16 → w'.cell? ⟨kb, ko + i, none⟩ = some (.int .u8 (n8 (b i))) := fun w' h =>
    ⟨by rw [(st0.later h).below.cell (p := ⟨kb, ko, none⟩) hkb]; exact hb 0 (by omega), fun i hi => by rw [(st0.later h).below.cell (p := ⟨kb, ko + i, none⟩) hkb]; exact hb i hi⟩
  have Facts := Lib.hid facts
  clear facts hb
  refine region_class 8 (fun w' => Below wa.heap.size wa w') mixedOrders (by kernel_rfl) (Below.refl _ _).drew ?_
  simp only [List.take_succ_cons, List.take_zero, List.drop_succ_cons, List.drop_zero]
  iterate 8
    (refine wpQuiet_want (by rfl) (fun K hK => ?_)
     apply Exists.intro
     refine ⟨fun w' hw' => ?_, ?_⟩
     · obtain ⟨c0, cc⟩ := Facts.out w' hw'
       have hw2 := Lib.hid hw'
       clear hw'
       go_simp
       first
         | rfl
         | (go_at_call 31
            refine (wordsOf_any b w').mono ?_
            rintro e w1 ⟨rfl, hb⟩
            exact ⟨rfl, hw2.out.trans (hb.mono hw2.out.size)⟩)
     go_simp
     refine hK _ ?_
     clear hK K)
  refine wpQuiet_nil ?_
  intro wb hwb
  have st1 := st0.later hwb
  clear hwb st0 Facts
  have c0 := st1.key 0 (by omega)
  have c1 := st1.key 1 (by omega)
  have c2 := st1.key 2 (by omega)
  have c3 := st1.key 3 (by omega)
  have f0 := st1.free 0
  have f1 := st1.free 1
  have f2 := st1.free 2
  have f3 := st1.free 3
  have hy : W4.of b = keyAt b 0 := rfl
  rw [hy]
  clear hy
  unfold W4.val
  go_wp2_with fail
  have st2 := st1.sets 0 (keyAt b 0)
  have sc1 := sc0.step
  simp only [Nat.zero_mul, Nat.zero_add] at st2 sc1
  clear c0 c1 c2 c3 f0 f1 f2 f3 sc0 st1
  generalize hW0 : (((World.setCell _ _ _).setCell _ _).setCell _ _).setCell _ _ = wc at *
  generalize upd4 _ 0 _ = ks at *
  clear hW0 wb
  go_loopw [6, 22] (fun rd i wr => ∃ r : Nat, r ≤ 10 ∧ i = .int .i64 (r : Int) ∧ rd = .int .u8 (n8 (rcon r)) ∧ ∃ ks, Sched b (r + 1) ks ∧ KeySt w w.heap.size q ks wr) (fun _ i _ => 10 - (intOf i).toNat)
  case atStart => exact ⟨0, by omega, rfl, by unfold n8 rcon; rfl, ks, sc1, st2⟩
  case round =>
    clear st2 sc1
    obtain ⟨r, hr, rfl, rfl, ks, sc, st⟩ := hrel
    by_cases hr9 : r < 10
    · have e1 : IntKind.i64.wrap ((r : Int) + 1) = (r : Int) + 1 := IntWalk.i64_in _ (by omega)
      have e2 : ((r : Int) + 1).toNat = r + 1 := by omega
      have b1 : (0 : Int) ≤ (r : Int) + 1 := by omega
      have b2 : (r : Int) + 1 < 11 := by omega
      have b3 : (r : Int) < 11 := by omega
      go_wp2_with fail
      have facts : ∀ w', Below wr.heap.size wr w' → (w'.cell? ⟨w.heap.size, r * 4, none⟩ = some (.int .u32 (n32 (ks (r * 4)))) ∧ w'.cell? ⟨w.heap.size, r * 4 + 1, none⟩ = some (.int .u32 (n32 (ks (r * 4 + 1)))) ∧ w'.cell? ⟨w.heap.size, r * 4 + 2, none⟩ = some (.int .u32 (n32 (ks (r * 4 + 2)))) ∧ w'.cell? ⟨w.heap.size, r * 4 + 3, none⟩ = some (.int .u32 (n32 (ks (r * 4 + 3))))) := fun w' h =>
        ⟨(st.later h).key _ (by omega), (st.later h).key _ (by omega), (st.later h).key _ (by omega), (st.later h).key _ (by omega)⟩
      have Facts := Lib.hid facts
      clear facts
      refine region_class 14 (fun w' => Below wr.heap.size wr w') mixedOrders (by kernel_rfl) (Below.refl _ _).drew ?_
      simp only [List.take_succ_cons, List.take_zero, List.drop_succ_cons, List.drop_zero]
      iterate 14
        (refine wpQuiet_want (by rfl) (fun K hK => ?_)
         apply Exists.intro
         refine ⟨fun w' hw' => ?_, ?_⟩
         · obtain ⟨c0, c1, c2, c3⟩ := Facts.out w' hw'
           have hw2 := Lib.hid hw'
           clear hw'
           go_simp
           first
             | rfl
             | (go_at_call 32
                refine (nextKey_any sbox q _ _ _ _ _ w' (st.later hw2.out).sub (lt_of_heap (st.later hw2.out).box)).mono ?_
                rintro e w1 ⟨rfl, hb⟩
                exact ⟨rfl, hw2.out.trans (hb.mono hw2.out.size)⟩)
         go_simp
         refine hK _ ?_
         clear hK K)
      refine wpQuiet_nil ?_
      intro wb hwb
      have st1 := st.later hwb
      clear hwb st Facts
      have hk := sc.kw (Nat.lt_succ_self r)
      rw [hk]
      have hy : W4.next sbox (keyAt b r) (rcon r) = keyAt b (r + 1) := rfl
      rw [hy]
      clear hy hk
      unfold W4.val
      have c0 := st1.key ((r + 1) * 4) (by omega)
      have c1 := st1.key ((r + 1) * 4 + 1) (by omega)
      have c2 := st1.key ((r + 1) * 4 + 2) (by omega)
      have c3 := st1.key ((r + 1) * 4 + 3) (by omega)
      have f0 := st1.free ((r + 1) * 4)
      have f1 := st1.free ((r + 1) * 4 + 1)
      have f2 := st1.free ((r + 1) * 4 + 2)
      have f3 := st1.free ((r + 1) * 4 + 3)
      go_wp2_with (go_at_call 33; refine (double_any _ _).mono ?_; rintro e w' ⟨rfl, rfl⟩)
      have st2 := st1.sets (r + 1) (keyAt b (r + 1))
      have sc1 := sc.step
      clear c0 c1 c2 c3 f0 f1 f2 f3 sc st1
      go_roundw
      case rel => exact ⟨r + 1, by omega, by go_num, rfl, _, sc1, st2⟩
      case measure => simp [intOf]; omega
    · obtain rfl : r = 10 := by omega
      go_wp2_with fail
      go_ret2
      exact ⟨rfl, q, st.congr (fun i hi => sc i (by omega))⟩
end Go.Proofs.Ytoocglckhphepaa
