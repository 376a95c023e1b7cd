/-
  THE CALLS OF PACKAGE gcm, EIGHTH PART: the seal of bytes.
-/
import Derived.Test.YtoocglckhphepaaGcmG
namespace Go.Proofs.Ytoocglckhphepaa
open Go Go.RowKit Go.BigFrame
set_option maxRecDepth 100000
set_option linter.unusedSimpArgs false
/-- Counts of bytes, as counts of bits. -/
def cnt2 (n m : Nat) : W2 := ⟨BitVec.ofNat 64 n * 8#64, BitVec.ofNat 64 m * 8#64⟩
def tagW (ks : Nat → BitVec 32) (h : W2) (f g : Nat → BitVec 8) (n : Nat) (u : Nat → BitVec 8) (m : Nat) : W2 :=
  W2.xor (W2.mul (W2.xor (sumB h (sumB h ⟨0#64, 0#64⟩ g n) u m) (cnt2 n m)) h) (W2.of (turned sbox ks (W4.of (ctrN f 1#8))).byte)
structure RegSt (w0 : World) (x : W2) (w : World) : Prop where
  below : Below w0.heap.size w0 w
  reg : w.heap[w0.heap.size]? = some (.cells (c2 x) 46 (0, 0))
theorem RegSt.later {w0 w w1 : World} {x : W2} (s : RegSt w0 x w) (hb : Below w.heap.size w w1) : RegSt w0 x w1 :=
  ⟨s.below.trans (hb.mono s.below.size), by rw [hb.block _ (lt_of_heap s.reg)]; exact s.reg⟩
theorem RegSt.cells {w0 w : World} {x : W2} (s : RegSt w0 x w) : w.cell? ⟨w0.heap.size, 0, none⟩ = some (.int .u64 (n64 x.hi)) ∧ w.cell? ⟨w0.heap.size, 1, none⟩ = some (.int .u64 (n64 x.lo)) := by
  rw [cell_of_row _ _ _ _ _ _ s.reg, cell_of_row _ _ _ _ _ _ s.reg]
  exact ⟨rfl, rfl⟩
theorem RegSt.free {w0 w : World} {x : W2} (s : RegSt w0 x w) (j : Nat) : w.frozen? ⟨w0.heap.size, j, none⟩ = false := frozen_of_row _ _ _ _ _ s.reg
theorem RegSt.sets {w0 w : World} {x : W2} (s : RegSt w0 x w) (y : W2) : RegSt w0 y ((w.setCell ⟨w0.heap.size, 0, none⟩ (.int .u64 (n64 y.hi))).setCell ⟨w0.heap.size, 1, none⟩ (.int .u64 (n64 y.lo))) := by
  refine ⟨(s.below.setCell (Nat.le_refl _) _).setCell (Nat.le_refl _) _, ?_⟩
  rw [heap_setCell_same _ _ _ _ _ _ (heap_setCell_same _ _ _ _ _ _ s.reg)]
  rfl
theorem under_16 : Try.prog.underlying 22 = some (.array 16 5) := by kernel_rfl
theorem results_cell_tmp {P : Program} {fn : Func} {p t1 : Tmp} {ty : TypeId} (h : fn.results = #[.cell p ty, .tmp t1]) (tmps : Array Value) (w : World) (g : Nat) (t : TypeId) (cs : Array Value) (fr : Nat × Nat) (d : TypeDesc)
    (hp : tmps.getD p undef = .pointer (some ⟨g, 0, none⟩)) (hg : w.heap[g]? = some (.cells cs t fr))
    (hu : P.underlying ty = some d) (hd : (match d with | .struct _ | .array _ _ => true | _ => false) = true) (hi : (P.info? ty).map (·.size) = some cs.size) :
    (results fn tmps).run P w = .ok (.tuple #[.agg cs, tmps.getD t1 undef]) w := by
  have hp' : tmps[p]?.getD undef = .pointer (some ⟨g, 0, none⟩) := by simpa using hp
  simp [results, h, hp', asAddr, run_loadVar_row w g t ty cs fr d hg hu hd hi]
set_option maxHeartbeats 8000000 in
theorem sealOf_any (p q : Nat) (ks : Nat → BitVec 32) (h : W2) (f g u : Nat → BitVec 8) (kb ko kc : Nat) (a a' : Option Addr) (n c m c' : Nat) (w : World) (hB : BoxAt w p q ks h)
    (hk : ∀ i, i < 12 → w.cell? ⟨kb, ko + i, none⟩ = some (.int .u8 (n8 (f i)))) (hkb : kb < w.heap.size) (hx : BytesIn w a n g) (hn : n ≤ c) (hc : c ≤ maxLen) (hy : BytesIn w a' m u) (hm : m ≤ c') (hc' : c' ≤ maxLen) :
    Calls Try.prog 25 #[.pointer (some ⟨p, 0, none⟩), .slice (some ⟨kb, ko, none⟩) 12 kc, .slice a n c, .slice a' m c'] w
      fun e w' => e = .returned (.tuple #[.agg (b16 (tagW ks h f g n u m).byte), .int .i64 0]) ∧ Below w.heap.size w w' := by
  have bA : Below w.heap.size w (w.alloc (.cells zeros16 22)) := (Below.refl _ _).alloc (Nat.le_refl _) _
  have CT := Lib.hid (counter_any f 1#8 kb ko kc (w.alloc (.cells zeros16 22)) (fun i hi => by rw [bA.cell (p := ⟨kb, ko + i, none⟩) hkb]; exact hk i hi) (Nat.lt_of_lt_of_le hkb bA.size))
  rw [show n8 1#8 = 1 by unfold n8; rfl] at CT
  have rA : (w.alloc (.cells zeros16 22)).heap[w.heap.size]? = some (.cells zeros16 22 (0, 0)) := heap_alloc_last _ _
  have RA := Lib.hid rA
  have BA := Lib.hid bA
  have HX := Lib.hid hx
  have HY := Lib.hid hy
  have HB := Lib.hid hB
  have HC := Lib.hid hc
  have HC' := Lib.hid hc'
  clear hk hkb hx hy hB rA bA hc hc'
  go_enter Try.func25, Try.ntmps25
  go_wp2_with (refine wpList_alloc_row (o := ⟨some 8, .alloc 22, _, _, _, _⟩) rfl 22 rfl zeros16 zero_16 ?_)
  refine CT.out.mono ?_
  rintro e w1 ⟨rfl, hb1⟩
  clear CT
  go_wp2_with (first
    | (refine wpList_alloc_row (o := ⟨some 10, .alloc 22, _, _, _, _⟩) rfl 22 rfl zeros16 zero_16 ?_)
    | (refine wpList_store_new (o := ⟨none, .store 22 (.tmp 10) (.tmp 16), _, _, _, _⟩) rfl 22 _ _ rfl zeros16 (b16 _) _ rfl rfl rfl (size_16 _) rfl (b16_one _) ?_))
  have hb2 := (hb1.trans ((Below.refl w1.heap.size w1).alloc (Nat.le_refl _) (.cells (b16 (ctrN f 1#8)) 22) |>.mono hb1.size))
  have row : (w1.alloc (.cells (b16 (ctrN f 1#8)) 22)).heap[w1.heap.size]? = some (.cells (b16 (ctrN f 1#8)) 22 (0, 0)) := heap_alloc_last _ _
  generalize hW : w1.alloc _ = w2 at *
  generalize w1.heap.size = k at *
  clear hW hb1
  have RA2 := Lib.hid ((hb2.block _ (lt_of_heap RA.out)).trans RA.out)
  have HB2 := Lib.hid (BA.out.trans (hb2.mono BA.out.size))
  have bx := HB.out.later HB2.out.drew
  have c0 := bx.c0
  have bk := block_ok ks (ctrN f 1#8) q k 0 16 w2.drew bx.cip (fun i hi => by rw [Nat.zero_add]; show w2.cell? _ = _; rw [cell_of_row _ _ _ _ _ _ row]; exact b16_get _ _ hi) (lt_of_heap row)
  have BK := Lib.hid bk
  have Bx := Lib.hid bx
  clear row hb2 bk bx RA BA
  go_region_held3 (fun w' => w'.cell? ⟨p, 0, none⟩ = some (.pointer (some ⟨q, 0, none⟩))) (first | assumption | exact k2)
    (first | (go_at_call 22; with_reducible refine BK.out.mono ?_; rintro e w3 ⟨r, rfl, hf⟩; have k2 := (Bx.out.later hf.below).c0) | fail)
  have HB3 := Lib.hid (HB2.out.drew.trans (hf.below.mono HB2.out.size))
  have RA3 := Lib.hid ((hf.below.block _ (show w.heap.size < w2.drew.heap.size from lt_of_heap RA2.out)).trans (show w2.drew.heap[w.heap.size]? = _ from RA2.out))
  have F := Lib.hid hf
  clear hf k2 c0 BK RA2 Bx
  go_wp2_with fail
  have HX3 := Lib.hid (bytesIn_later HX.out HB3.out)
  have HY3 := Lib.hid (bytesIn_later HY.out HB3.out)
  have Bx3 := Lib.hid (HB.out.later HB3.out)
  have st0 : RegSt w3 ⟨0#64, 0#64⟩ (w3.alloc (.cells #[.int .u64 0, .int .u64 0] 46)) := ⟨(Below.refl _ _).alloc (Nat.le_refl _) _, by rw [heap_alloc_last]; simp [c2, n64_zero]⟩
  have sk := summed_any h ⟨0#64, 0#64⟩ g p a n c (w3.alloc (.cells #[.int .u64 0, .int .u64 0] 46)) (Bx3.out.hh.later st0.below) hn HC.out (bytesIn_later HX3.out st0.below).2
  simp only [n64_zero] at sk
  generalize hW : w3.alloc _ = w4 at *
  clear hW HX HY HB
  have SK := Lib.hid sk
  have ST := Lib.hid st0
  clear sk st0
  with_reducible refine SK.out.mono ?_
  rintro e w5 ⟨rfl, hb5⟩
  have st := ST.out.later hb5
  generalize hx1 : sumB h ⟨0#64, 0#64⟩ g n = x1
  have HX1 := Lib.hid hx1
  have st1 := st.sets x1
  obtain ⟨c0, c1⟩ := st.cells
  have f0 := st.free 0
  have f1 := st.free 1
  clear SK ST hb5 hx1 st
  unfold W2.val
  go_wp2_with fail
  have sk := summed_any h x1 u p a' m c' ((w5.setCell ⟨w3.heap.size, 0, none⟩ (.int .u64 (n64 x1.hi))).setCell ⟨w3.heap.size, 1, none⟩ (.int .u64 (n64 x1.lo))) (Bx3.out.hh.later st1.below) hm HC'.out (bytesIn_later HY3.out st1.below).2
  generalize hW : (w5.setCell _ _).setCell _ _ = w6 at *
  have SK := Lib.hid sk
  have ST := Lib.hid st1
  clear sk st1 hW c0 c1 f0 f1
  with_reducible refine SK.out.mono ?_
  rintro e w7 ⟨rfl, hb7⟩
  have st := ST.out.later hb7
  generalize hx2 : sumB h x1 u m = x2
  have HX2 := Lib.hid hx2
  have st1 := st.sets x2
  obtain ⟨c0, c1⟩ := st.cells
  have f0 := st.free 0
  have f1 := st.free 1
  have e1 : IntKind.u64.wrap (n : Int) = n64 (BitVec.ofNat 64 n) := by rw [wrap_n64, ofInt_lit64]
  have e2 : IntKind.u64.wrap (m : Int) = n64 (BitVec.ofNat 64 m) := by rw [wrap_n64, ofInt_lit64]
  clear SK ST hb7 hx2 st
  unfold W2.val
  go_wp2_with fail
  have st2 := st1.later ((Below.refl _ _).alloc (Nat.le_refl _) (.cells (c2 (cnt2 n m)) 46))
  have row14 := heap_alloc_last ((w7.setCell ⟨w3.heap.size, 0, none⟩ (.int .u64 (n64 x2.hi))).setCell ⟨w3.heap.size, 1, none⟩ (.int .u64 (n64 x2.lo))) (.cells (c2 (cnt2 n m)) 46)
  have hsz : ((w7.setCell ⟨w3.heap.size, 0, none⟩ (.int .u64 (n64 x2.hi))).setCell ⟨w3.heap.size, 1, none⟩ (.int .u64 (n64 x2.lo))).heap.size = w7.heap.size := by simp [World.setCell]
  rw [hsz] at row14
  clear hsz st1 c0 c1 f0 f1 e1 e2
  unfold c2 cnt2 at st2 row14
  generalize hW : World.alloc _ _ = w8 at *
  generalize w7.heap.size = j at *
  clear hW
  have facts : ∀ w', Below w8.heap.size w8 w' → w'.cell? ⟨w3.heap.size, 0, none⟩ = some (.int .u64 (n64 x2.hi)) ∧ w'.cell? ⟨w3.heap.size, 1, none⟩ = some (.int .u64 (n64 x2.lo)) ∧
      w'.cell? ⟨j, 0, none⟩ = some (.int .u64 (n64 (BitVec.ofNat 64 n * 8#64))) ∧ w'.cell? ⟨j, 1, none⟩ = some (.int .u64 (n64 (BitVec.ofNat 64 m * 8#64))) ∧
      w'.cell? ⟨p, 1, none⟩ = some (.int .u64 (n64 h.hi)) ∧ w'.cell? ⟨p, 2, none⟩ = some (.int .u64 (n64 h.lo)) := fun w' hb => by
    have h1 := st2.later hb
    have h2 := Bx3.out.hh.later h1.below
    refine ⟨h1.cells.1, h1.cells.2, ?_, ?_, h2.c1, h2.c2⟩
    · rw [hb.cell (p := ⟨j, 0, none⟩) (lt_of_heap row14), cell_of_row _ _ _ _ _ _ row14]; rfl
    · rw [hb.cell (p := ⟨j, 1, none⟩) (lt_of_heap row14), cell_of_row _ _ _ _ _ _ row14]; rfl
  have Facts := Lib.hid facts
  clear facts row14
  refine region_class 8 (fun w' => Below w8.heap.size w8 w') mixedOrders (by kernel_rfl) (Below.refl _ _).drew ?_
  simp only [List.take_succ_cons, List.take_zero, List.drop_succ_cons, List.drop_zero]
  iterate 8
    (refine wpQuiet_want (by rfl) (fun K hK => ?_)
     apply Exists.intro
     refine ⟨fun w' hw' => ?_, ?_⟩
     · obtain ⟨c0, c1, d0, d1, k1, k2⟩ := Facts.out w' hw'
       have hw2 := Lib.hid hw'
       clear hw'
       go_simp
       first
         | rfl
         | (go_at_call 19
            refine (wordsOf2_any _ w').mono ?_
            rintro e w1 ⟨rfl, hb⟩
            exact ⟨rfl, hw2.out.trans (hb.mono hw2.out.size)⟩)
         | (go_at_call 40
            refine (together2_any _ _ _ _ w').mono ?_
            rintro e w1 ⟨rfl, hb⟩
            exact ⟨rfl, hw2.out.trans (hb.mono hw2.out.size)⟩)
         | (go_at_call 18
            refine (times2_any _ _ _ _ w').mono ?_
            rintro e w1 ⟨rfl, hb⟩
            exact ⟨rfl, hw2.out.trans (hb.mono hw2.out.size)⟩)
         | (go_at_call 17
            refine (bytesOf2_any _ _ w').mono ?_
            rintro e w1 ⟨rfl, hb⟩
            exact ⟨rfl, hw2.out.trans (hb.mono hw2.out.size)⟩)
     (try simp only [W2.val])
     go_simp
     refine hK _ ?_
     clear hK K)
  refine wpQuiet_nil ?_
  intro w9 h9
  have st := st2.later h9
  have hx3 : W2.mul (W2.xor ⟨x2.hi, x2.lo⟩ ⟨BitVec.ofNat 64 n * 8#64, BitVec.ofNat 64 m * 8#64⟩) ⟨h.hi, h.lo⟩ = W2.mul (W2.xor x2 (cnt2 n m)) h := rfl
  generalize hx4 : W2.mul (W2.xor ⟨x2.hi, x2.lo⟩ ⟨BitVec.ofNat 64 n * 8#64, BitVec.ofNat 64 m * 8#64⟩) ⟨h.hi, h.lo⟩ = x3 at *
  have HX3' := Lib.hid hx3
  have st1 := st.sets x3
  obtain ⟨c0, c1⟩ := st.cells
  have f0 := st.free 0
  have f1 := st.free 1
  clear Facts h9 st st2 hx3 hx4
  go_wp2_with fail
  generalize hW : (w9.setCell _ _).setCell _ _ = wa at *
  clear hW c0 c1 f0 f1
  have av : ∀ w', (Instr.arrayAt 22 (.slice (some ⟨r, 0, none⟩) 16 16)).run Try.prog w' = .ok (.pointer (some ⟨r, 0, none⟩)) w' := fun w' => run_arrayAt w' 22 5 16 _ 16 16 (by kernel_rfl) (by omega)
  have facts : ∀ w', Below wa.heap.size wa w' → w'.cell? ⟨w3.heap.size, 0, none⟩ = some (.int .u64 (n64 x3.hi)) ∧ w'.cell? ⟨w3.heap.size, 1, none⟩ = some (.int .u64 (n64 x3.lo)) ∧
      (Instr.loadAt 22 (.pointer (some ⟨r, 0, none⟩))).run Try.prog w' = .ok (.agg (b16 (W4.byte (turned sbox ks (W4.of (ctrN f 1#8)))))) w' := fun w' hb => by
    have h1 := st1.later hb
    exact ⟨h1.cells.1, h1.cells.2, load16_any _ _ _ _ (fun i hi => by rw [Nat.zero_add, h1.below.cell (p := ⟨r, i, none⟩) (lt_of_heap F.out.row)]; exact F.out.cell i hi)⟩
  have Facts := Lib.hid facts
  clear facts
  refine region_class 7 (fun w' => Below wa.heap.size wa w') mixedOrders (by kernel_rfl) (Below.refl _ _).drew ?_
  simp only [List.take_succ_cons, List.take_zero, List.drop_succ_cons, List.drop_zero]
  iterate 3
    (refine wpQuiet_want (by rfl) (fun K hK => ?_)
     apply Exists.intro
     refine ⟨fun w' hw' => ?_, ?_⟩
     · obtain ⟨c0, c1, ld⟩ := Facts.out w' hw'
       have hw2 := Lib.hid hw'
       clear hw'
       go_simp
       first
         | rfl
         | (go_at_call 19
            refine (wordsOf2_any _ w').mono ?_
            rintro e w1 ⟨rfl, hb⟩
            exact ⟨rfl, hw2.out.trans (hb.mono hw2.out.size)⟩)
         | (go_at_call 40
            refine (together2_any _ _ _ _ w').mono ?_
            rintro e w1 ⟨rfl, hb⟩
            exact ⟨rfl, hw2.out.trans (hb.mono hw2.out.size)⟩)
         | (go_at_call 18
            refine (times2_any _ _ _ _ w').mono ?_
            rintro e w1 ⟨rfl, hb⟩
            exact ⟨rfl, hw2.out.trans (hb.mono hw2.out.size)⟩)
         | (go_at_call 17
            refine (bytesOf2_any _ _ w').mono ?_
            rintro e w1 ⟨rfl, hb⟩
            exact ⟨rfl, hw2.out.trans (hb.mono hw2.out.size)⟩)
     (try simp only [W2.val])
     go_simp
     refine hK _ ?_
     clear hK K)
  refine wpQuiet_run (.agg (b16 (W4.byte (turned sbox ks (W4.of (ctrN f 1#8)))))) (by rfl) (fun w' hw' => quiet_run (Facts.out w' hw').2.2) ?_
  simp only [Act.put, List.setIfInBounds_toArray, List.set_cons_succ, List.set_cons_zero]
  iterate 3
    (refine wpQuiet_want (by rfl) (fun K hK => ?_)
     apply Exists.intro
     refine ⟨fun w' hw' => ?_, ?_⟩
     · obtain ⟨c0, c1, ld⟩ := Facts.out w' hw'
       have hw2 := Lib.hid hw'
       clear hw'
       go_simp
       first
         | rfl
         | (go_at_call 19
            refine (wordsOf2_any _ w').mono ?_
            rintro e w1 ⟨rfl, hb⟩
            exact ⟨rfl, hw2.out.trans (hb.mono hw2.out.size)⟩)
         | (go_at_call 40
            refine (together2_any _ _ _ _ w').mono ?_
            rintro e w1 ⟨rfl, hb⟩
            exact ⟨rfl, hw2.out.trans (hb.mono hw2.out.size)⟩)
         | (go_at_call 18
            refine (times2_any _ _ _ _ w').mono ?_
            rintro e w1 ⟨rfl, hb⟩
            exact ⟨rfl, hw2.out.trans (hb.mono hw2.out.size)⟩)
         | (go_at_call 17
            refine (bytesOf2_any _ _ w').mono ?_
            rintro e w1 ⟨rfl, hb⟩
            exact ⟨rfl, hw2.out.trans (hb.mono hw2.out.size)⟩)
     (try simp only [W2.val])
     go_simp
     refine hK _ ?_
     clear hK K)
  refine wpQuiet_nil ?_
  intro wb hb
  have hbb := (st1.later hb).below
  have R8 := Lib.hid ((hbb.block _ (lt_of_heap RA3.out)).trans RA3.out)
  have hlast := HB3.out.trans (hbb.mono HB3.out.size)
  have HL := Lib.hid hlast
  have e : tagW ks h f g n u m = W2.xor x3 (W2.of (W4.byte (turned sbox ks (W4.of (ctrN f 1#8))))) := by
    unfold tagW
    rw [HX1.out, HX2.out, ← HX3'.out]
  have HE := Lib.hid e
  clear Facts hb st1 hbb hlast e av
  generalize hG : W2.byte _ = G
  have HG := Lib.hid hG
  clear hG
  refine wpList_store_row (op := ⟨none, .store 22 (.tmp 8) (.tmp 61), _, _, _, _⟩) rfl 22 _ _ rfl w.heap.size 22 zeros16 (b16 G) rfl rfl R8.out rfl (size_16 _) (b16_one _) ?_
  intro wz hset
  go_wp2_with fail
  refine bodyPost_ret (v := .tuple #[.agg (b16 G), .int .i64 0]) (results_cell_tmp (p := 8) (t1 := 9) rfl _ _ w.heap.size 22 (b16 G) (0, 0) _ rfl hset.row under_16 rfl (size_16 _)) rfl ⟨?_, HL.out.trans (hset.below _ (Nat.le_refl _))⟩
  rw [HE.out, ← HG.out]
end Go.Proofs.Ytoocglckhphepaa
