/-
  TEXTS PUT TOGETHER: GcmH, GcmI, GcmJ, GcmL.
-/
import Derived.Test.YtjbpjoondmcnlabDoorMg23
set_option maxRecDepth 100000
/-
  THE CALLS OF PACKAGE gcm, EIGHTH PART: the seal of bytes.
-/
namespace Go.Proofs.YtjbpjoondmcnlabDoor
open Go Go.RowKit Go.BigFrame
set_option maxRecDepth 100000
set_option linter.unusedSimpArgs false
/-- Counts of bytes, as counts of bits. -/
def cnt2 (n m : Nat) : W2 := ⟨BitVec.ofNat 64 n * 8#64, BitVec.ofNat 64 m * 8#64⟩
def tagW (ks : Nat → BitVec 32) (h : W2) (f g : Nat → BitVec 8) (n : Nat) (u : Nat → BitVec 8) (m : Nat) : W2 :=
  W2.xor (W2.mul (W2.xor (sumGB h (sumGB h ⟨0#64, 0#64⟩ g n) u m) (cnt2 n m)) h) (W2.of (turned sbox ks (W4.of (ctrN f 1#8))).byte)
structure RegSt (w0 : World) (x : W2) (w : World) : Prop where
  below : Below w0.heap.size w0 w
  reg : w.heap[w0.heap.size]? = some (.cells (c2 x) 91 (0, 0))
theorem RegSt.later {w0 w w1 : World} {x : W2} (s : RegSt w0 x w) (hb : Below w.heap.size w w1) : RegSt w0 x w1 :=
  ⟨s.below.trans (hb.mono s.below.size), by rw [hb.block _ (lt_of_heap s.reg)]; exact s.reg⟩
theorem RegSt.cells {w0 w : World} {x : W2} (s : RegSt w0 x w) : w.cell? ⟨w0.heap.size, 0, none⟩ = some (.int .u64 (n64 x.hi)) ∧ w.cell? ⟨w0.heap.size, 1, none⟩ = some (.int .u64 (n64 x.lo)) := by
  rw [cell_of_row _ _ _ _ _ _ s.reg, cell_of_row _ _ _ _ _ _ s.reg]
  exact ⟨rfl, rfl⟩
theorem RegSt.free {w0 w : World} {x : W2} (s : RegSt w0 x w) (j : Nat) : w.frozen? ⟨w0.heap.size, j, none⟩ = false := frozen_of_row _ _ _ _ _ s.reg
theorem RegSt.sets {w0 w : World} {x : W2} (s : RegSt w0 x w) (y : W2) : RegSt w0 y ((w.setCell ⟨w0.heap.size, 0, none⟩ (.int .u64 (n64 y.hi))).setCell ⟨w0.heap.size, 1, none⟩ (.int .u64 (n64 y.lo))) := by
  refine ⟨(s.below.setCell (Nat.le_refl _) _).setCell (Nat.le_refl _) _, ?_⟩
  rw [heap_setCell_same _ _ _ _ _ _ (heap_setCell_same _ _ _ _ _ _ s.reg)]
  rfl
theorem under_16 : Tryd.prog.underlying 93 = some (.array 16 5) := by kernel_rfl
theorem results_cell_tmpG {P : Program} {fn : Func} {p t1 : Tmp} {ty : TypeId} (h : fn.results = #[.cell p ty, .tmp t1]) (tmps : Array Value) (w : World) (g : Nat) (t : TypeId) (cs : Array Value) (fr : Nat × Nat) (d : TypeDesc)
    (hp : tmps.getD p undef = .pointer (some ⟨g, 0, none⟩)) (hg : w.heap[g]? = some (.cells cs t fr))
    (hu : P.underlying ty = some d) (hd : (match d with | .struct _ | .array _ _ => true | _ => false) = true) (hi : (P.info? ty).map (·.size) = some cs.size) :
    (results fn tmps).run P w = .ok (.tuple #[.agg cs, tmps.getD t1 undef]) w := by
  have hp' : tmps[p]?.getD undef = .pointer (some ⟨g, 0, none⟩) := by simpa using hp
  simp [results, h, hp', asAddr, run_loadVar_row w g t ty cs fr d hg hu hd hi]
set_option maxHeartbeats 8000000 in
theorem sealOf_any (p q : Nat) (ks : Nat → BitVec 32) (h : W2) (f g u : Nat → BitVec 8) (kb ko kc : Nat) (a a' : Option Addr) (n c m c' : Nat) (w : World) (hB : BoxAt w p q ks h)
    (hk : ∀ i, i < 12 → w.cell? ⟨kb, ko + i, none⟩ = some (.int .u8 (n8 (f i)))) (hkb : kb < w.heap.size) (hx : BytesIn w a n g) (hn : n ≤ c) (hc : c ≤ maxLen) (hy : BytesIn w a' m u) (hm : m ≤ c') (hc' : c' ≤ maxLen) :
    Calls Tryd.prog 52 #[.pointer (some ⟨p, 0, none⟩), .slice (some ⟨kb, ko, none⟩) 12 kc, .slice a n c, .slice a' m c'] w
      fun e w' => e = .returned (.tuple #[.agg (b16 (tagW ks h f g n u m).byte), .int .i64 0]) ∧ Below w.heap.size w w' := by
  have bA : Below w.heap.size w (w.alloc (.cells zeros16 93)) := (Below.refl _ _).alloc (Nat.le_refl _) _
  have CT := Lib.hid (counter_any f 1#8 kb ko kc (w.alloc (.cells zeros16 93)) (fun i hi => by rw [bA.cell (p := ⟨kb, ko + i, none⟩) hkb]; exact hk i hi) (Nat.lt_of_lt_of_le hkb bA.size))
  rw [show n8 1#8 = 1 by unfold n8; rfl] at CT
  have rA : (w.alloc (.cells zeros16 93)).heap[w.heap.size]? = some (.cells zeros16 93 (0, 0)) := heap_alloc_last _ _
  have RA := Lib.hid rA
  have BA := Lib.hid bA
  have HX := Lib.hid hx
  have HY := Lib.hid hy
  have HB := Lib.hid hB
  have HC := Lib.hid hc
  have HC' := Lib.hid hc'
  clear hk hkb hx hy hB rA bA hc hc'
  go_enter Tryd.func52, Tryd.ntmps52
  go_wp2_with (refine wpList_alloc_row (o := ⟨some 8, .alloc 93, _, _, _, _⟩) rfl 93 rfl zeros16 zero_16 ?_)
  refine CT.out.mono ?_
  rintro e w1 ⟨rfl, hb1⟩
  clear CT
  go_wp2_with (first
    | (refine wpList_alloc_row (o := ⟨some 10, .alloc 93, _, _, _, _⟩) rfl 93 rfl zeros16 zero_16 ?_)
    | (refine wpList_store_new (o := ⟨none, .store 93 (.tmp 10) (.tmp 16), _, _, _, _⟩) rfl 93 _ _ rfl zeros16 (b16 _) _ rfl rfl rfl (size_16 _) rfl (b16_one _) ?_))
  have hb2 := (hb1.trans ((Below.refl w1.heap.size w1).alloc (Nat.le_refl _) (.cells (b16 (ctrN f 1#8)) 93) |>.mono hb1.size))
  have row : (w1.alloc (.cells (b16 (ctrN f 1#8)) 93)).heap[w1.heap.size]? = some (.cells (b16 (ctrN f 1#8)) 93 (0, 0)) := heap_alloc_last _ _
  generalize hW : w1.alloc _ = w2 at *
  generalize w1.heap.size = k at *
  clear hW hb1
  have RA2 := Lib.hid ((hb2.block _ (lt_of_heap RA.out)).trans RA.out)
  have HB2 := Lib.hid (BA.out.trans (hb2.mono BA.out.size))
  have bx := HB.out.later HB2.out.drew
  have c0 := bx.c0
  have bk := block_ok ks (ctrN f 1#8) q k 0 16 w2.drew bx.cip (fun i hi => by rw [Nat.zero_add]; show w2.cell? _ = _; rw [cell_of_row _ _ _ _ _ _ row]; exact b16_get _ _ hi) (lt_of_heap row)
  have BK := Lib.hid bk
  have Bx := Lib.hid bx
  clear row hb2 bk bx RA BA
  go_region_held3 (fun w' => w'.cell? ⟨p, 0, none⟩ = some (.pointer (some ⟨q, 0, none⟩))) (first | assumption | exact k2)
    (first | (go_at_call 48; with_reducible refine BK.out.mono ?_; rintro e w3 ⟨r, rfl, hf⟩; have k2 := (Bx.out.later hf.below).c0) | fail)
  have HB3 := Lib.hid (HB2.out.drew.trans (hf.below.mono HB2.out.size))
  have RA3 := Lib.hid ((hf.below.block _ (show w.heap.size < w2.drew.heap.size from lt_of_heap RA2.out)).trans (show w2.drew.heap[w.heap.size]? = _ from RA2.out))
  have F := Lib.hid hf
  clear hf k2 c0 BK RA2 Bx
  go_wp2_with fail
  have HX3 := Lib.hid (bytesIn_later HX.out HB3.out)
  have HY3 := Lib.hid (bytesIn_later HY.out HB3.out)
  have Bx3 := Lib.hid (HB.out.later HB3.out)
  have st0 : RegSt w3 ⟨0#64, 0#64⟩ (w3.alloc (.cells #[.int .u64 0, .int .u64 0] 91)) := ⟨(Below.refl _ _).alloc (Nat.le_refl _) _, by rw [heap_alloc_last]; simp [c2, n64_zero]⟩
  have sk := summed_any h ⟨0#64, 0#64⟩ g p a n c (w3.alloc (.cells #[.int .u64 0, .int .u64 0] 91)) (Bx3.out.hh.later st0.below) hn HC.out (bytesIn_later HX3.out st0.below).2
  simp only [n64_zero] at sk
  generalize hW : w3.alloc _ = w4 at *
  clear hW HX HY HB
  have SK := Lib.hid sk
  have ST := Lib.hid st0
  clear sk st0
  with_reducible refine SK.out.mono ?_
  rintro e w5 ⟨rfl, hb5⟩
  have st := ST.out.later hb5
  generalize hx1 : sumGB h ⟨0#64, 0#64⟩ g n = x1
  have HX1 := Lib.hid hx1
  have st1 := st.sets x1
  obtain ⟨c0, c1⟩ := st.cells
  have f0 := st.free 0
  have f1 := st.free 1
  clear SK ST hb5 hx1 st
  unfold W2.val
  go_wp2_with fail
  have sk := summed_any h x1 u p a' m c' ((w5.setCell ⟨w3.heap.size, 0, none⟩ (.int .u64 (n64 x1.hi))).setCell ⟨w3.heap.size, 1, none⟩ (.int .u64 (n64 x1.lo))) (Bx3.out.hh.later st1.below) hm HC'.out (bytesIn_later HY3.out st1.below).2
  generalize hW : (w5.setCell _ _).setCell _ _ = w6 at *
  have SK := Lib.hid sk
  have ST := Lib.hid st1
  clear sk st1 hW c0 c1 f0 f1
  with_reducible refine SK.out.mono ?_
  rintro e w7 ⟨rfl, hb7⟩
  have st := ST.out.later hb7
  generalize hx2 : sumGB h x1 u m = x2
  have HX2 := Lib.hid hx2
  have st1 := st.sets x2
  obtain ⟨c0, c1⟩ := st.cells
  have f0 := st.free 0
  have f1 := st.free 1
  have e1 : IntKind.u64.wrap (n : Int) = n64 (BitVec.ofNat 64 n) := by rw [wrap_n64, ofInt_lit64]
  have e2 : IntKind.u64.wrap (m : Int) = n64 (BitVec.ofNat 64 m) := by rw [wrap_n64, ofInt_lit64]
  clear SK ST hb7 hx2 st
  unfold W2.val
  go_wp2_with fail
  have st2 := st1.later ((Below.refl _ _).alloc (Nat.le_refl _) (.cells (c2 (cnt2 n m)) 91))
  have row14 := heap_alloc_last ((w7.setCell ⟨w3.heap.size, 0, none⟩ (.int .u64 (n64 x2.hi))).setCell ⟨w3.heap.size, 1, none⟩ (.int .u64 (n64 x2.lo))) (.cells (c2 (cnt2 n m)) 91)
  have hsz : ((w7.setCell ⟨w3.heap.size, 0, none⟩ (.int .u64 (n64 x2.hi))).setCell ⟨w3.heap.size, 1, none⟩ (.int .u64 (n64 x2.lo))).heap.size = w7.heap.size := by simp [World.setCell]
  rw [hsz] at row14
  clear hsz st1 c0 c1 f0 f1 e1 e2
  unfold c2 cnt2 at st2 row14
  generalize hW : World.alloc _ _ = w8 at *
  generalize w7.heap.size = j at *
  clear hW
  have facts : ∀ w', Below w8.heap.size w8 w' → w'.cell? ⟨w3.heap.size, 0, none⟩ = some (.int .u64 (n64 x2.hi)) ∧ w'.cell? ⟨w3.heap.size, 1, none⟩ = some (.int .u64 (n64 x2.lo)) ∧
      w'.cell? ⟨j, 0, none⟩ = some (.int .u64 (n64 (BitVec.ofNat 64 n * 8#64))) ∧ w'.cell? ⟨j, 1, none⟩ = some (.int .u64 (n64 (BitVec.ofNat 64 m * 8#64))) ∧
      w'.cell? ⟨p, 1, none⟩ = some (.int .u64 (n64 h.hi)) ∧ w'.cell? ⟨p, 2, none⟩ = some (.int .u64 (n64 h.lo)) := fun w' hb => by
    have h1 := st2.later hb
    have h2 := Bx3.out.hh.later h1.below
    refine ⟨h1.cells.1, h1.cells.2, ?_, ?_, h2.c1, h2.c2⟩
    · rw [hb.cell (p := ⟨j, 0, none⟩) (lt_of_heap row14), cell_of_row _ _ _ _ _ _ row14]; rfl
    · rw [hb.cell (p := ⟨j, 1, none⟩) (lt_of_heap row14), cell_of_row _ _ _ _ _ _ row14]; rfl
  have Facts := Lib.hid facts
  clear facts row14
  refine region_class 8 (fun w' => Below w8.heap.size w8 w') mixedOrders (by kernel_rfl) (Below.refl _ _).drew ?_
  simp only [List.take_succ_cons, List.take_zero, List.drop_succ_cons, List.drop_zero]
  iterate 8
    (refine wpQuiet_want (by rfl) (fun K hK => ?_)
     apply Exists.intro
     refine ⟨fun w' hw' => ?_, ?_⟩
     · obtain ⟨c0, c1, d0, d1, k1, k2⟩ := Facts.out w' hw'
       have hw2 := Lib.hid hw'
       clear hw'
       go_simp
       first
         | rfl
         | (go_at_call 49
            refine (wordsOf2_any _ w').mono ?_
            rintro e w1 ⟨rfl, hb⟩
            exact ⟨rfl, hw2.out.trans (hb.mono hw2.out.size)⟩)
         | (go_at_call 76
            refine (together2_any _ _ _ _ w').mono ?_
            rintro e w1 ⟨rfl, hb⟩
            exact ⟨rfl, hw2.out.trans (hb.mono hw2.out.size)⟩)
         | (go_at_call 75
            refine (times2_any _ _ _ _ w').mono ?_
            rintro e w1 ⟨rfl, hb⟩
            exact ⟨rfl, hw2.out.trans (hb.mono hw2.out.size)⟩)
         | (go_at_call 77
            refine (bytesOf2_any _ _ w').mono ?_
            rintro e w1 ⟨rfl, hb⟩
            exact ⟨rfl, hw2.out.trans (hb.mono hw2.out.size)⟩)
     (try simp only [W2.val])
     go_simp
     refine hK _ ?_
     clear hK K)
  refine wpQuiet_nil ?_
  intro w9 h9
  have st := st2.later h9
  have hx3 : W2.mul (W2.xor ⟨x2.hi, x2.lo⟩ ⟨BitVec.ofNat 64 n * 8#64, BitVec.ofNat 64 m * 8#64⟩) ⟨h.hi, h.lo⟩ = W2.mul (W2.xor x2 (cnt2 n m)) h := rfl
  generalize hx4 : W2.mul (W2.xor ⟨x2.hi, x2.lo⟩ ⟨BitVec.ofNat 64 n * 8#64, BitVec.ofNat 64 m * 8#64⟩) ⟨h.hi, h.lo⟩ = x3 at *
  have HX3' := Lib.hid hx3
  have st1 := st.sets x3
  obtain ⟨c0, c1⟩ := st.cells
  have f0 := st.free 0
  have f1 := st.free 1
  clear Facts h9 st st2 hx3 hx4
  go_wp2_with fail
  generalize hW : (w9.setCell _ _).setCell _ _ = wa at *
  clear hW c0 c1 f0 f1
  have av : ∀ w', (Instr.arrayAt 93 (.slice (some ⟨r, 0, none⟩) 16 16)).run Tryd.prog w' = .ok (.pointer (some ⟨r, 0, none⟩)) w' := fun w' => run_arrayAt w' 93 5 16 _ 16 16 (by kernel_rfl) (by omega)
  have facts : ∀ w', Below wa.heap.size wa w' → w'.cell? ⟨w3.heap.size, 0, none⟩ = some (.int .u64 (n64 x3.hi)) ∧ w'.cell? ⟨w3.heap.size, 1, none⟩ = some (.int .u64 (n64 x3.lo)) ∧
      (Instr.loadAt 93 (.pointer (some ⟨r, 0, none⟩))).run Tryd.prog w' = .ok (.agg (b16 (W4.byte (turned sbox ks (W4.of (ctrN f 1#8)))))) w' := fun w' hb => by
    have h1 := st1.later hb
    exact ⟨h1.cells.1, h1.cells.2, load16_any _ _ _ _ (fun i hi => by rw [Nat.zero_add, h1.below.cell (p := ⟨r, i, none⟩) (lt_of_heap F.out.row)]; exact F.out.cell i hi)⟩
  have Facts := Lib.hid facts
  clear facts
  refine region_class 7 (fun w' => Below wa.heap.size wa w') mixedOrders (by kernel_rfl) (Below.refl _ _).drew ?_
  simp only [List.take_succ_cons, List.take_zero, List.drop_succ_cons, List.drop_zero]
  iterate 3
    (refine wpQuiet_want (by rfl) (fun K hK => ?_)
     apply Exists.intro
     refine ⟨fun w' hw' => ?_, ?_⟩
     · obtain ⟨c0, c1, ld⟩ := Facts.out w' hw'
       have hw2 := Lib.hid hw'
       clear hw'
       go_simp
       first
         | rfl
         | (go_at_call 49
            refine (wordsOf2_any _ w').mono ?_
            rintro e w1 ⟨rfl, hb⟩
            exact ⟨rfl, hw2.out.trans (hb.mono hw2.out.size)⟩)
         | (go_at_call 76
            refine (together2_any _ _ _ _ w').mono ?_
            rintro e w1 ⟨rfl, hb⟩
            exact ⟨rfl, hw2.out.trans (hb.mono hw2.out.size)⟩)
         | (go_at_call 75
            refine (times2_any _ _ _ _ w').mono ?_
            rintro e w1 ⟨rfl, hb⟩
            exact ⟨rfl, hw2.out.trans (hb.mono hw2.out.size)⟩)
         | (go_at_call 77
            refine (bytesOf2_any _ _ w').mono ?_
            rintro e w1 ⟨rfl, hb⟩
            exact ⟨rfl, hw2.out.trans (hb.mono hw2.out.size)⟩)
     (try simp only [W2.val])
     go_simp
     refine hK _ ?_
     clear hK K)
  refine wpQuiet_run (.agg (b16 (W4.byte (turned sbox ks (W4.of (ctrN f 1#8)))))) (by rfl) (fun w' hw' => quiet_run (Facts.out w' hw').2.2) ?_
  simp only [Act.put, List.setIfInBounds_toArray, List.set_cons_succ, List.set_cons_zero]
  iterate 3
    (refine wpQuiet_want (by rfl) (fun K hK => ?_)
     apply Exists.intro
     refine ⟨fun w' hw' => ?_, ?_⟩
     · obtain ⟨c0, c1, ld⟩ := Facts.out w' hw'
       have hw2 := Lib.hid hw'
       clear hw'
       go_simp
       first
         | rfl
         | (go_at_call 49
            refine (wordsOf2_any _ w').mono ?_
            rintro e w1 ⟨rfl, hb⟩
            exact ⟨rfl, hw2.out.trans (hb.mono hw2.out.size)⟩)
         | (go_at_call 76
            refine (together2_any _ _ _ _ w').mono ?_
            rintro e w1 ⟨rfl, hb⟩
            exact ⟨rfl, hw2.out.trans (hb.mono hw2.out.size)⟩)
         | (go_at_call 75
            refine (times2_any _ _ _ _ w').mono ?_
            rintro e w1 ⟨rfl, hb⟩
            exact ⟨rfl, hw2.out.trans (hb.mono hw2.out.size)⟩)
         | (go_at_call 77
            refine (bytesOf2_any _ _ w').mono ?_
            rintro e w1 ⟨rfl, hb⟩
            exact ⟨rfl, hw2.out.trans (hb.mono hw2.out.size)⟩)
     (try simp only [W2.val])
     go_simp
     refine hK _ ?_
     clear hK K)
  refine wpQuiet_nil ?_
  intro wb hb
  have hbb := (st1.later hb).below
  have R8 := Lib.hid ((hbb.block _ (lt_of_heap RA3.out)).trans RA3.out)
  have hlast := HB3.out.trans (hbb.mono HB3.out.size)
  have HL := Lib.hid hlast
  have e : tagW ks h f g n u m = W2.xor x3 (W2.of (W4.byte (turned sbox ks (W4.of (ctrN f 1#8))))) := by
    unfold tagW
    rw [HX1.out, HX2.out, ← HX3'.out]
  have HE := Lib.hid e
  clear Facts hb st1 hbb hlast e av
  generalize hG : W2.byte _ = G
  have HG := Lib.hid hG
  clear hG
  refine wpList_store_row (op := ⟨none, .store 93 (.tmp 8) (.tmp 61), _, _, _, _⟩) rfl 93 _ _ rfl w.heap.size 93 zeros16 (b16 G) rfl rfl R8.out rfl (size_16 _) (b16_one _) ?_
  intro wz hset
  go_wp2_with fail
  refine bodyPost_ret (v := .tuple #[.agg (b16 G), .int .i64 0]) (results_cell_tmpG (p := 8) (t1 := 9) rfl _ _ w.heap.size 93 (b16 G) (0, 0) _ rfl hset.row under_16 rfl (size_16 _)) rfl ⟨?_, HL.out.trans (hset.below _ (Nat.le_refl _))⟩
  rw [HE.out, ← HG.out]
end Go.Proofs.YtjbpjoondmcnlabDoor
/-
  THE CALLS OF PACKAGE gcm, NINTH PART: Seal and Open.
-/
namespace Go.Proofs.YtjbpjoondmcnlabDoor
open Go Go.RowKit Go.BigFrame
set_option maxRecDepth 100000
set_option linter.unusedSimpArgs false
theorem Own.of_row {B r n : Nat} {f : Nat → BitVec 8} {w : World} (hB : B ≤ r) (hn : n ≤ maxLen) (h : w.heap[r]? = some (.cells (bytesArr f n) 5 (0, 0))) : Own B (.slice (some ⟨r, 0, Option.none⟩) n n) n f w :=
  ⟨⟨by rw [firsts_len, Nat.mul_one], .inr ⟨r, n, bytesArr f n, rfl, hB, h, Nat.le_refl _, hn, by rw [bytesArr_size, Nat.mul_one], by rw [Nat.mul_one, bytesArr_firsts, List.take_of_length_le (by rw [firsts_len]; exact Nat.le_refl _)]⟩⟩, Nat.le_trans hB (Nat.le_of_lt (lt_of_heap h))⟩
theorem in_row {w : World} {r n : Nat} {f : Nat → BitVec 8} {T : TypeId} (hn : n ≤ maxLen) (h : w.heap[r]? = some (.cells (bytesArr f n) T (0, 0))) : BytesIn w (some ⟨r, 0, none⟩) n f :=
  ⟨hn, .inr ⟨r, 0, rfl, lt_of_heap h, fun i hi => by rw [Nat.zero_add]; exact bytesIn_cells h i hi⟩⟩
/-- What Seal makes: the bytes hidden, and the seal. -/
def sealF (ks : Nat → BitVec 32) (h : W2) (f g : Nat → BitVec 8) (n : Nat) (xs : Nat → BitVec 8) (m : Nat) : Nat → BitVec 8 :=
  joinb (hid ks f xs) m (tagW ks h f g n (hid ks f xs) m).byte
set_option maxHeartbeats 1000000 in
theorem gseal_nil (a a' a'' : Option Addr) (n c n' c' n'' c'' : Nat) (w : World) :
    Calls Tryd.prog 27 #[.pointer none, .slice a n c, .slice a' n' c', .slice a'' n'' c''] w fun e w' => e = .returned (.tuple #[.slice none 0 0, .int .i64 1]) ∧ w = w' := by
  go_enter Tryd.func27, Tryd.ntmps27
  go_wp2_with (go_at_call 50; refine (takes_nil _ _ _ _).mono ?_; rintro e w' ⟨rfl, rfl⟩)
  go_ret2
  exact ⟨rfl, rfl⟩
set_option maxHeartbeats 1000000 in
theorem gseal_bad (p q : Nat) (ks : Nat → BitVec 32) (h : W2) (a a' a'' : Option Addr) (n c n' c' n'' c'' : Nat) (w : World) (hB : BoxAt w p q ks h) (hn : n ≠ 12) :
    Calls Tryd.prog 27 #[.pointer (some ⟨p, 0, none⟩), .slice a n c, .slice a' n' c', .slice a'' n'' c''] w fun e w' => e = .returned (.tuple #[.slice none 0 0, .int .i64 1]) ∧ w = w' := by
  have tk := Lib.hid (takes_no p q ks h a n c w hB hn)
  clear hB
  go_enter Tryd.func27, Tryd.ntmps27
  go_wp2_with (go_at_call 50; refine tk.out.mono ?_; rintro e w' ⟨rfl, rfl⟩)
  go_ret2
  exact ⟨rfl, rfl⟩
set_option maxHeartbeats 4000000 in
theorem gseal_ok (p q : Nat) (ks : Nat → BitVec 32) (h : W2) (f g xs : Nat → BitVec 8) (kb ko kc : Nat) (a a' : Option Addr) (n c m c' : Nat) (w : World) (hB : BoxAt w p q ks h)
    (hk : ∀ i, i < 12 → w.cell? ⟨kb, ko + i, none⟩ = some (.int .u8 (n8 (f i)))) (hkb : kb < w.heap.size) (hx : BytesIn w a n g) (hn : n ≤ c) (hc : c ≤ maxLen) (hy : BytesIn w a' m xs) (hm : m ≤ 100000000000000) :
    Calls Tryd.prog 27 #[.pointer (some ⟨p, 0, none⟩), .slice (some ⟨kb, ko, none⟩) 12 kc, .slice a n c, .slice a' m c'] w
      fun e w' => ∃ v, e = .returned (.tuple #[v, .int .i64 0]) ∧ Own w.heap.size v (m + 16) (sealF ks h f g n xs m) w' ∧ Below w.heap.size w w' := by
  have tk := Lib.hid (takes_yes p q ks h (some ⟨kb, ko, none⟩) kc w hB)
  have tu := Lib.hid (turned_any' p q ks h f xs kb ko kc a' m c' w hB hk hkb hy (by omega))
  have HB := Lib.hid hB
  have HK := Lib.hid hk
  have HX := Lib.hid hx
  have HC := Lib.hid hc
  have HKB := Lib.hid hkb
  clear hB hk hx hy hc hkb
  go_enter Tryd.func27, Tryd.ntmps27
  go_wp2_with (go_at_call 50; refine tk.out.mono ?_; rintro e w' ⟨rfl, rfl⟩)
  refine tu.out.mono ?_
  rintro e w1 ⟨r, rfl, hb1, hr, row1⟩
  have hml : m ≤ maxLen := by unfold maxLen; omega
  have so := Lib.hid (sealOf_any p q ks h f g (hid ks f xs) kb ko kc a (some ⟨r, 0, none⟩) n c m m w1 (HB.out.later hb1) (fun i hi => by rw [hb1.cell (p := ⟨kb, ko + i, none⟩) HKB.out]; exact HK.out i hi) (Nat.lt_of_lt_of_le HKB.out hb1.size)
    (bytesIn_later HX.out hb1) hn HC.out (in_row hml row1) (Nat.le_refl _) hml)
  have HB1 := Lib.hid hb1
  have Row1 := Lib.hid row1
  have HR := Lib.hid hr
  have HML := Lib.hid hml
  clear hb1 row1 hr tk tu hml
  go_wp2_with fail
  refine so.out.mono ?_
  rintro e w2 ⟨rfl, hb2⟩
  generalize hG : (tagW ks h f g n (hid ks f xs) m).byte = G
  have HG := Lib.hid hG
  have HB2 := Lib.hid (HB1.out.trans (hb2.mono HB1.out.size))
  have Row2 := Lib.hid ((hb2.block _ (lt_of_heap Row1.out)).trans Row1.out)
  clear so hG hb2 Row1
  go_upto_region 9 with (first
    | (refine wpList_alloc_row (o := ⟨some 12, .alloc 93, _, _, _, _⟩) rfl 93 rfl zeros16 zero_16 ?_)
    | (refine wpList_store_new (o := ⟨none, .store 93 (.tmp 12) (.tmp 33), _, _, _, _⟩) rfl 93 _ _ rfl zeros16 (b16 G) _ rfl rfl rfl (size_16 _) rfl (b16_one _) ?_))
  have row := heap_alloc_last w2 (.cells (b16 G) 93)
  have own := (Own.of_row (B := w.heap.size) HR.out HML.out Row2.out).alloc (.cells (b16 G) 93)
  have hb3 := HB2.out.alloc HB2.out.size (.cells (b16 G) 93)
  generalize hW : w2.alloc _ = w3 at *
  generalize w2.heap.size = k at *
  clear hW
  have OW := Lib.hid own
  have HB3 := Lib.hid hb3
  have src := Lib.hid (src_bytes G k 0 16 16 w3 (fun i hi => by rw [Nat.zero_add, cell_of_row _ _ _ _ _ _ row]; exact b16_get _ _ hi))
  clear own hb3 row
  go_wp2_with (at_builtin; refine wpList_append_bytes (o := ⟨some 40, _, _, _, _, _⟩) rfl _ _ 31 rfl rfl rfl OW.out src.out (by omega) ?_; intro v' w4 ho hg)
  go_ret2
  refine ⟨v', rfl, ?_, HB3.out.trans (hg.below OW.out)⟩
  unfold sealF
  rw [HG.out]
  exact ho
end Go.Proofs.YtjbpjoondmcnlabDoor
/-
  THE CALLS OF PACKAGE gcm, TENTH PART: Open.
-/
namespace Go.Proofs.YtjbpjoondmcnlabDoor
open Go Go.RowKit Go.BigFrame
set_option maxRecDepth 100000
set_option linter.unusedSimpArgs false
theorem run_upto_b (w : World) (a : Option Addr) (k m c : Nat) (hk : k ≤ m) (hm : m ≤ c) : (Instr.sliceAt 31 (.slice a m c) none (some (.int .i64 (k : Int))) none).run Tryd.prog w = .ok (.slice a k c) w := by
  have hkc : k ≤ c := Nat.le_trans hk hm
  have hu : Tryd.prog.underlying 31 = some (.slice (Tryd.prog.elem 31)) := by kernel_rfl
  rw [run_sliceAt_slice (t := 31) (h := hu), run_slice_any (t := 31) (ht := hu)]
  have h0 : (0 : Int) ≤ (k : Int) := by omega
  have h1 : (k : Int) ≤ (c : Int) := by omega
  simp [Instr.sliceBounds, go_sem, h0, h1]
theorem run_from_b (w : World) (b o k m c : Nat) (hk : k ≤ m) (hc : c ≠ k) : (Instr.sliceAt 31 (.slice (some ⟨b, o, none⟩) m c) (some (.int .i64 (k : Int))) none none).run Tryd.prog w = .ok (.slice (some ⟨b, o + k, none⟩) (m - k) (c - k)) w := by
  have hu : Tryd.prog.underlying 31 = some (.slice (Tryd.prog.elem 31)) := by kernel_rfl
  rw [run_sliceAt_slice (t := 31) (h := hu), run_slice_any (t := 31) (ht := hu)]
  have h0 : (0 : Int) ≤ (k : Int) := by omega
  have h1 : (k : Int) ≤ (m : Int) := by omega
  have e : ((⟨b, o, none⟩ : Addr).add k) = ⟨b, o + k, none⟩ := by unfold Addr.add; split <;> simp_all
  simp [Instr.sliceBounds, go_sem, h0, h1, hc, e]
set_option maxHeartbeats 1000000 in
theorem gopen_bad (p q : Nat) (ks : Nat → BitVec 32) (h : W2) (a a' a'' : Option Addr) (n c n' c' n'' c'' : Nat) (w : World) (hB : BoxAt w p q ks h) (hn : n ≠ 12) :
    Calls Tryd.prog 55 #[.pointer (some ⟨p, 0, none⟩), .slice a n c, .slice a' n' c', .slice a'' n'' c''] w fun e w' => e = .returned (.tuple #[.slice none 0 0, .int .i64 1]) ∧ w = w' := by
  have tk := Lib.hid (takes_no p q ks h a n c w hB hn)
  clear hB
  go_enter Tryd.func55, Tryd.ntmps55
  go_wp2_with (go_at_call 50; refine tk.out.mono ?_; rintro e w' ⟨rfl, rfl⟩)
  go_ret2
  exact ⟨rfl, rfl⟩
set_option maxHeartbeats 1000000 in
theorem gopen_short (p q : Nat) (ks : Nat → BitVec 32) (h : W2) (a a' a'' : Option Addr) (c n' c' n'' c'' : Nat) (w : World) (hB : BoxAt w p q ks h) (hn : n'' < 16) :
    Calls Tryd.prog 55 #[.pointer (some ⟨p, 0, none⟩), .slice a 12 c, .slice a' n' c', .slice a'' n'' c''] w fun e w' => e = .returned (.tuple #[.slice none 0 0, .int .i64 3]) ∧ w = w' := by
  have tk := Lib.hid (takes_yes p q ks h a c w hB)
  have hnI : (n'' : Int) < 16 := by omega
  clear hB
  go_enter Tryd.func55, Tryd.ntmps55
  go_wp2_with (go_at_call 50; refine tk.out.mono ?_; rintro e w' ⟨rfl, rfl⟩)
  go_ret2
  exact ⟨rfl, rfl⟩
/-- What Open tells of bytes whose seal is right; of others. -/
def openE (ks : Nat → BitVec 32) (h : W2) (f g : Nat → BitVec 8) (n : Nat) (xs : Nat → BitVec 8) (m : Nat) : Bool :=
  accD (tagW ks h f g n xs m).byte (fun i => xs (m + i)) 16 == 0#8
set_option maxHeartbeats 4000000 in
theorem gopen_ok (p q : Nat) (ks : Nat → BitVec 32) (h : W2) (f g xs : Nat → BitVec 8) (kb ko kc : Nat) (a a' : Option Addr) (n c m c' : Nat) (w : World) (hB : BoxAt w p q ks h)
    (hk : ∀ i, i < 12 → w.cell? ⟨kb, ko + i, none⟩ = some (.int .u8 (n8 (f i)))) (hkb : kb < w.heap.size) (hx : BytesIn w a n g) (hn : n ≤ c) (hc : c ≤ maxLen) (hy : BytesIn w a' (m + 16) xs) (hmc : m + 16 ≤ c') (hm : m ≤ 100000000000000) (hc' : c' ≤ maxLen) :
    Calls Tryd.prog 55 #[.pointer (some ⟨p, 0, none⟩), .slice (some ⟨kb, ko, none⟩) 12 kc, .slice a n c, .slice a' (m + 16) c'] w
      fun e w' => Below w.heap.size w w' ∧ ((openE ks h f g n xs m = true ∧ ∃ r, e = .returned (.tuple #[.slice (some ⟨r, 0, none⟩) m m, .int .i64 0]) ∧ w.heap.size ≤ r ∧ w'.heap[r]? = some (.cells (bytesArr (hid ks f xs) m) 5 (0, 0)))
        ∨ (openE ks h f g n xs m = false ∧ e = .returned (.tuple #[.slice none 0 0, .int .i64 4]))) := by
  have tk := Lib.hid (takes_yes p q ks h (some ⟨kb, ko, none⟩) kc w hB)
  have hml : m ≤ maxLen := by unfold maxLen; omega
  obtain h0 | ⟨bb, bo, rfl, hbb, hcell⟩ := hy.2
  · omega
  have HYm := Lib.hid (show BytesIn w (some ⟨bb, bo, none⟩) m xs from ⟨hml, .inr ⟨bb, bo, rfl, hbb, fun i hi => hcell i (by omega)⟩⟩)
  have HYt := Lib.hid (show BytesIn w (some ⟨bb, bo + m, none⟩) 16 (fun i => xs (m + i)) from ⟨by decide, .inr ⟨bb, bo + m, rfl, hbb, fun i hi => by rw [Nat.add_assoc]; exact hcell (m + i) (by omega)⟩⟩)
  have so := Lib.hid (sealOf_any p q ks h f g xs kb ko kc a (some ⟨bb, bo, none⟩) n c m c' w.drew (hB.later (Below.refl _ _).drew) hk hkb hx hn hc HYm.out (by omega) hc')
  have HB := Lib.hid hB
  have HK := Lib.hid hk
  have HKB := Lib.hid hkb
  have HML := Lib.hid hml
  have hnI : ¬ ((m : Int) + 16 < 16) := by omega
  have s1 := fun w' => run_upto_b w' (some ⟨bb, bo, none⟩) m (m + 16) c' (by omega) hmc
  have s2 : ∀ w', (Instr.sliceAt 31 (.slice (some ⟨bb, bo, none⟩) (m + 16) c') (some (.int .i64 (m : Int))) none none).run Tryd.prog w' = .ok (.slice (some ⟨bb, bo + m, none⟩) 16 (c' - m)) w' := fun w' => by
    have h := run_from_b w' bb bo m (m + 16) c' (by omega) (by omega)
    rw [show m + 16 - m = 16 by omega] at h
    exact h
  have e1 : IntKind.i64.wrap (m : Int) = (m : Int) := by rw [IntKind.wrap_i64]; omega
  have e2 : (m : Int) + 16 - 16 = (m : Int) := by omega
  clear hB hk hkb hx hy hcell hc hc' hml
  go_enter Tryd.func55, Tryd.ntmps55
  go_wp2_with (go_at_call 50; refine tk.out.mono ?_; rintro e w' ⟨rfl, rfl⟩)
  go_upto_region 5 with (fail)
  go_region_with (fail)
  clear s1 s2 e1 e2
  go_wp2_with fail
  with_reducible refine so.out.mono ?_
  rintro e w2 ⟨rfl, hb2⟩
  generalize hG : (tagW ks h f g n xs m).byte = G
  have HG := Lib.hid hG
  have HB2 := Lib.hid ((Below.refl w.heap.size w).drew.trans hb2)
  clear so hG hb2
  go_upto_region 9 with (first
    | (refine wpList_alloc_row (o := ⟨some 12, .alloc 93, _, _, _, _⟩) rfl 93 rfl zeros16 zero_16 ?_)
    | (refine wpList_store_new (o := ⟨none, .store 93 (.tmp 12) (.tmp 37), _, _, _, _⟩) rfl 93 _ _ rfl zeros16 (b16 G) _ rfl rfl rfl (size_16 _) rfl (b16_one _) ?_))
  have row := heap_alloc_last w2 (.cells (b16 G) 93)
  have hb3 := HB2.out.alloc HB2.out.size (.cells (b16 G) 93)
  generalize hW : w2.alloc _ = w3 at *
  generalize w2.heap.size = k at *
  clear hW
  have HB3 := Lib.hid hb3
  have sm := Lib.hid (same_any G (fun i => xs (m + i)) (some ⟨k, 0, none⟩) (some ⟨bb, bo + m, none⟩) 16 16 (c' - m) w3 (by decide) (in_row (by decide) (by rw [bytes16_b16]; exact row)) (bytesIn_later HYt.out hb3))
  have tu := Lib.hid (turned_any' p q ks h f xs kb ko kc (some ⟨bb, bo, none⟩) m c' w3 (HB.out.later hb3) (fun i hi => by rw [hb3.cell (p := ⟨kb, ko + i, none⟩) HKB.out]; exact HK.out i hi) (Nat.lt_of_lt_of_le HKB.out hb3.size) (bytesIn_later HYm.out hb3) (by omega))
  have hE : openE ks h f g n xs m = (accD G (fun i => xs (m + i)) 16 == 0#8) := by unfold openE; rw [HG.out]
  have HE := Lib.hid hE
  clear hb3 row hE
  go_wp2_with fail
  refine sm.out.mono ?_
  rintro e w' ⟨rfl, rfl⟩
  generalize hD : (accD G (fun i => xs (m + i)) 16 == 0#8) = D at *
  clear hD sm
  cases D with
  | false =>
    go_wp2_with fail
    go_ret2
    exact ⟨HB3.out, .inr ⟨HE.out, rfl⟩⟩
  | true =>
    go_wp2_with fail
    refine tu.out.mono ?_
    rintro e w4 ⟨r, rfl, hb4, hr, row4⟩
    go_wp2_with fail
    go_ret2
    exact ⟨HB3.out.trans (hb4.mono HB3.out.size), .inl ⟨HE.out, r, rfl, Nat.le_trans HB3.out.size hr, row4⟩⟩
end Go.Proofs.YtjbpjoondmcnlabDoor
/-
  WHAT WAS SEALED IS OPENED, as plain functions.
-/
namespace Go.Proofs.YtjbpjoondmcnlabDoor
open Go
theorem wd8_congr (f g : Nat → BitVec 8) (h : ∀ i, i < 8 → f i = g i) : wd8 f = wd8 g := by
  unfold wd8
  rw [h 0 (by omega), h 1 (by omega), h 2 (by omega), h 3 (by omega), h 4 (by omega), h 5 (by omega), h 6 (by omega), h 7 (by omega)]
theorem of2_congr (f g : Nat → BitVec 8) (h : ∀ i, i < 16 → f i = g i) : W2.of f = W2.of g := by
  unfold W2.of
  rw [wd8_congr f g (fun i hi => h i (by omega)), wd8_congr (fun i => f (8 + i)) (fun i => g (8 + i)) (fun i hi => h (8 + i) (by omega))]
theorem sumK_congr (h r : W2) (f g : Nat → BitVec 8) (k : Nat) (e : ∀ i, i < 16 * k → f i = g i) : sumK h r f k = sumK h r g k := by
  induction k with
  | zero => rfl
  | succ k ih =>
    unfold sumK
    rw [ih (fun i hi => e i (by omega)), of2_congr _ (fun i => g (16 * k + i)) (fun i hi => e _ (by omega))]
theorem sumGB_congr (h r : W2) (f g : Nat → BitVec 8) (n : Nat) (e : ∀ i, i < n → f i = g i) : sumGB h r f n = sumGB h r g n := by
  unfold sumGB
  have hd := Nat.div_add_mod n 16
  rw [sumK_congr h r f g (n / 16) (fun i hi => e i (by omega))]
  rw [of2_congr (padF (fun i => f (16 * (n / 16) + i)) (n % 16)) (padF (fun i => g (16 * (n / 16) + i)) (n % 16)) (fun i _ => by
    unfold padF
    by_cases hi : i < n % 16
    · rw [if_pos hi, if_pos hi]; exact e _ (by omega)
    · rw [if_neg hi, if_neg hi])]
theorem tagW_congr (ks : Nat → BitVec 32) (h : W2) (f g : Nat → BitVec 8) (n : Nat) (u v : Nat → BitVec 8) (m : Nat) (e : ∀ i, i < m → u i = v i) : tagW ks h f g n u m = tagW ks h f g n v m := by
  unfold tagW
  rw [sumGB_congr h _ u v m e]
theorem sealF_lo (ks : Nat → BitVec 32) (h : W2) (f g : Nat → BitVec 8) (n : Nat) (xs : Nat → BitVec 8) (m i : Nat) (hi : i < m) : sealF ks h f g n xs m i = hid ks f xs i := by
  unfold sealF joinb
  rw [if_pos hi]
theorem hid_hid (ks : Nat → BitVec 32) (h : W2) (f g : Nat → BitVec 8) (n : Nat) (xs : Nat → BitVec 8) (m i : Nat) (hi : i < m) : hid ks f (sealF ks h f g n xs m) i = xs i := by
  unfold hid
  rw [sealF_lo ks h f g n xs m i hi]
  unfold hid
  rw [BitVec.xor_assoc, BitVec.xor_self, BitVec.xor_zero]
theorem openE_sealed (ks : Nat → BitVec 32) (h : W2) (f g : Nat → BitVec 8) (n : Nat) (xs : Nat → BitVec 8) (m : Nat) : openE ks h f g n (sealF ks h f g n xs m) m = true := by
  unfold openE
  rw [beq_iff_eq, accD_zero]
  intro i hi
  rw [tagW_congr ks h f g n (sealF ks h f g n xs m) (hid ks f xs) m (fun j hj => sealF_lo ks h f g n xs m j hj)]
  show _ = sealF ks h f g n xs m (m + i)
  unfold sealF joinb
  rw [if_neg (by omega), show m + i - m = i by omega]
end Go.Proofs.YtjbpjoondmcnlabDoor
