/-
  GUARD's Open of bytes that are long enough: the program's.
-/
import Derived.Test.YtjbpjoondmcnlabDoorGoB
namespace Go.Proofs.YtjbpjoondmcnlabDoor
open Go Go.RowKit Go.BigFrame
set_option linter.unusedSimpArgs false
set_option linter.unusedVariables false
set_option maxRecDepth 100000
theorem run_upto_at (w : World) (a : Option Addr) (k m c : Nat) (K : Int) (hK : K = (k : Int)) (hk : k ≤ m) (hm : m ≤ c) : (Instr.sliceAt 31 (.slice a m c) none (some (.int .i64 K)) none).run Tryd.prog w = .ok (.slice a k c) w := by
  subst hK
  exact run_upto_b w a k m c hk hm
/-- How many bytes the number has; the number; whether the body's seal is right; what the body carries. -/
def opnS (mk f : Nat → BitVec 8) (p : Nat) : Nat := (veilF (f 0) (mskF mk (fun i => f (p + i)) 0)).toNat % 4 + 1
def opnN (mk f : Nat → BitVec 8) (p s : Nat) (E : Int) : Int := wholeF (256 ^ s) ((numG (fun i => hidP mk f p s (p + i)) s : Nat) : Int) E
def opnOk (k iv mk f : Nat → BitVec 8) (E : Int) (p L s : Nat) : Bool := openE (sched k) (hOf (sched k)) (nonTo iv (opnN mk f p s E) 8) (hidP mk f p s) (p + s) (fun i => f (p + s + i)) (L - (p + s) - 16)
def opnC (k iv mk f : Nat → BitVec 8) (E : Int) (p s : Nat) : Nat → BitVec 8 := hid (sched k) (nonTo iv (opnN mk f p s E) 8) (fun i => f (p + s + i))
theorem wholeF_in (s : Nat) (hs1 : 1 ≤ s) (hs4 : s ≤ 4) (low E : Int) (l0 : 0 ≤ low) (l1 : low < 256 ^ s) (h0 : 0 ≤ E) (h1 : E ≤ 4611686018427387903) : 0 ≤ wholeF (256 ^ s) low E ∧ wholeF (256 ^ s) low E ≤ 4611686018427387903 := by
  obtain rfl | rfl | rfl | rfl : s = 1 ∨ s = 2 ∨ s = 3 ∨ s = 4 := by omega
  all_goals
    unfold wholeF
    split
    · omega
    · split <;> omega
theorem numG_ltI (g : Nat → BitVec 8) (s : Nat) : ((numG g s : Nat) : Int) < 256 ^ s := by
  have h := numG_lt g s
  have e : ((256 : Int) ^ s) = ((256 ^ s : Nat) : Int) := by simp
  rw [e]
  exact Int.ofNat_lt.2 h
set_option maxHeartbeats 16000000 in
theorem gopen_any (k iv mk f : Nat → BitVec 8) (E : Int) (h0 : 0 ≤ E) (h1 : E ≤ 4611686018427387903) (p L s : Nat) (hp : 1 ≤ p) (hL : p + 20 ≤ L) (hL2 : L ≤ 4000) (hs : opnS mk f p = s) (bb bo c : Nat) (hc : L ≤ c) (hcm : c ≤ maxLen) (w : World) (hf : BytesIn w (some ⟨bb, bo, none⟩) L f) :
    Calls Tryd.prog 14 #[.agg (kysC (strOf k 16) (strOf iv 12) (strOf mk 16)), .slice (some ⟨bb, bo, none⟩) L c, .int .i64 (p : Int), .int .i64 E] w
      fun e w' => Below w.heap.size w w' ∧ ((opnOk k iv mk f E p L s = true ∧ ∃ g ch r, e = .returned (.tuple #[.slice (some ⟨g, 0, none⟩) (p + s) ch, .int .i64 (opnN mk f p s E), .slice (some ⟨r, 0, none⟩) (L - (p + s) - 16) (L - (p + s) - 16), .int .i64 0])
          ∧ p + s ≤ ch ∧ ch ≤ maxLen ∧ BytesIn w' (some ⟨g, 0, none⟩) (p + s) (hidP mk f p s) ∧ BytesIn w' (some ⟨r, 0, none⟩) (L - (p + s) - 16) (opnC k iv mk f E p s))
        ∨ (opnOk k iv mk f E p L s = false ∧ e = .returned (.tuple #[.slice none 0 0, .int .i64 0, .slice none 0 0, .int .i64 4]))) := by
  have R0 : (w.alloc (.cells (kysC (strOf k 16) (strOf iv 12) (strOf mk 16)) 34)).heap[w.heap.size]? = some (.cells (kysC (strOf k 16) (strOf iv 12) (strOf mk 16)) 34 (0, 0)) := heap_alloc_last _ _
  have hb1 : Below w.heap.size w (w.alloc (.cells (kysC (strOf k 16) (strOf iv 12) (strOf mk 16)) 34)) := (Below.refl w.heap.size w).alloc (Nat.le_refl _) _
  have HB := Lib.hid hb1
  have HL := Lib.hid (show w.heap.size < (w.alloc (.cells (kysC (strOf k 16) (strOf iv 12) (strOf mk 16)) 34)).heap.size by simp)
  have CC := Lib.hid (kys_cells R0)
  have NU2 := Lib.hid (by have := numbers_any E (w.alloc (.cells (kysC (strOf k 16) (strOf iv 12) (strOf mk 16)) 34)); rw [decide_eq_true (show 0 ≤ E ∧ E ≤ 4611686018427387903 from ⟨h0, h1⟩)] at this; exact this)
  have WH2 := Lib.hid (by have := whole_any (strOf k 16) (strOf iv 12) (strOf mk 16) 16 12 16 (strOf_size _ _) (strOf_size _ _) (strOf_size _ _) (w.alloc (.cells (kysC (strOf k 16) (strOf iv 12) (strOf mk 16)) 34)); rw [decide_eq_true (show 16 = 16 ∧ 12 = 12 ∧ 16 = 16 from ⟨rfl, rfl, rfl⟩)] at this; exact this)
  have hbl : bb < w.heap.size := by
    rcases hf.2 with h | ⟨b', o', e', hlt, _⟩
    · omega
    · injection e' with e'; injection e' with e1 _; omega
  have HBB := Lib.hid hbl
  have hcell : ∀ i, i < L → w.cell? ⟨bb, bo + i, none⟩ = some (.int .u8 (n8 (f i))) := by
    rcases hf.2 with h | ⟨b', o', e', _, hcc⟩
    · omega
    · injection e' with e'; injection e' with e1 e2; subst e1 e2; exact hcc
  have HC := Lib.hid hcell
  have HF0 := Lib.hid (show w.cell? ⟨bb, bo, none⟩ = some (.int .u8 (n8 (f 0))) from hcell 0 (by omega))
  have hsr : 1 ≤ s ∧ s ≤ 4 := by unfold opnS at hs; omega
  obtain ⟨hs1, hs4⟩ := hsr
  obtain ⟨m, hm⟩ : ∃ m, L - (p + s) - 16 = m := ⟨_, rfl⟩
  have hLm : L - (p + s) = m + 16 := by omega
  have MS := Lib.hid (fun (a : Option Addr) (c' : Nat) (hc' : L - p ≤ c') (w' : World) (h : BytesIn w' a (L - p) (fun i => f (p + i))) => mask_any mk (fun i => f (p + i)) (strOf k 16) (strOf iv 12) a (L - p) c' (by omega) hc' w' h)
  have hnn := wholeF_in s hs1 hs4 ((numG (fun i => hidP mk f p s (p + i)) s : Nat) : Int) E (by omega) (numG_ltI _ s) h0 h1
  have OP := Lib.hid (fun (a a' : Option Addr) (ch c' : Nat) (hch : p + s ≤ ch) (hchm : ch ≤ maxLen) (hc' : m + 16 ≤ c') (hcm' : c' ≤ maxLen) (w' : World) (hg : BytesIn w' a (p + s) (hidP mk f p s)) (hx : BytesIn w' a' (m + 16) (fun i => f (p + s + i))) =>
    opened_any k iv mk (hidP mk f p s) (fun i => f (p + s + i)) (opnN mk f p s E) hnn.1 hnn.2 a a' (p + s) ch m c' hch hchm (by omega) hc' hcm' w' hg hx)
  have WL := Lib.hid (fun w' => gwhole_any s hs1 hs4 ((numG (fun i => hidP mk f p s (p + i)) s : Nat) : Int) E (by omega) (numG_ltI _ s) h0 h1 w')
  have VO := Lib.hid (fun (a : Option Addr) (c' : Nat) (w' : World) (h : BytesIn w' a s (fun i => hidP mk f p s (p + i))) => valueOf_any a s c' (fun i => hidP mk f p s (p + i)) hs4 w' h)
  have DOk : opnOk k iv mk f E p L s = openE (sched k) (hOf (sched k)) (nonTo iv (opnN mk f p s E) 8) (hidP mk f p s) (p + s) (fun i => f (p + s + i)) m := by unfold opnOk; rw [hm]
  have DC : opnC k iv mk f E p s = hid (sched k) (nonTo iv (opnN mk f p s E) 8) (fun i => f (p + s + i)) := rfl
  have DN : wholeF (256 ^ s) ((numG (fun i => hidP mk f p s (p + i)) s : Nat) : Int) E = opnN mk f p s E := rfl
  rw [DN] at WL
  rw [hm, DOk, DC]
  clear DOk DC DN hnn
  generalize opnN mk f p s E = NN at *
  generalize numG (fun i => hidP mk f p s (p + i)) s = LOW at *
  have hHP : hidP mk f p s = togF (updb f 0 (veilF (f 0) (mskF mk (fun i => f (p + i)) 0))) (fun i => mskF mk (fun i => f (p + i)) (1 + i)) p s := rfl
  unfold opnS at hs
  have hand := and3 (veilF (f 0) (mskF mk (fun i => f (p + i)) 0))
  generalize hidP mk f p s = HP at *
  generalize mskF mk (fun i => f (p + i)) = M at *
  generalize hvv : veilF (f 0) (M 0) = VV at *
  have hand2 : n8 (VV &&& 3#8) = (s : Int) - 1 := by rw [hand]; omega
  have HH := Lib.hid hHP
  have VE := Lib.hid hvv
  have hpL : ¬ (L : Int) - (p : Int) < 20 := by omega
  have hPn : ¬ (p : Int) < 1 := by omega
  have hwr : IntKind.wrap .i64 ((L : Int) - (p : Int)) = (L : Int) - (p : Int) := by simp only [IntKind.wrap, IntKind.bits, IntKind.signed]; simp; omega
  have hwps : IntKind.wrap .i64 ((p : Int) + (s : Int)) = (p : Int) + (s : Int) := by simp only [IntKind.wrap, IntKind.bits, IntKind.signed]; simp; omega
  obtain ⟨c0, c1, c2⟩ := CC.out
  clear hf hb1 R0 hbl hcell hs hand hHP hvv hm
  unfold kysC at *
  generalize strOf k 16 = SK at *
  generalize strOf iv 12 = SI at *
  generalize strOf mk 16 = SM at *
  go_enter Tryd.func14, Tryd.ntmps14
  go_upto_region 5 with (first
    | (go_at_call 35; refine NU2.out.mono ?_; rintro e w1 ⟨rfl, rfl⟩)
    | (go_at_call 36; refine WH2.out.mono ?_; rintro e w1 ⟨rfl, hb⟩; have B1 := Lib.hid (HB.out.trans (hb.mono HB.out.size)); have L1 := Lib.hid (Nat.lt_of_lt_of_le HL.out hb.size); have c1' := Lib.hid (fun (i : Nat) => hb.cell (p := ⟨w.heap.size, i, none⟩) HL.out); clear hb))
  have K1 := Lib.hid (show w1.cell? ⟨w.heap.size, 0, none⟩ = some (.string SK) ∧ w1.cell? ⟨w.heap.size, 1, none⟩ = some (.string SI) ∧ w1.cell? ⟨w.heap.size, 2, none⟩ = some (.string SM) from ⟨(c1'.out 0).trans CC.out.1, (c1'.out 1).trans CC.out.2.1, (c1'.out 2).trans CC.out.2.2⟩)
  clear c1' CC c0 c1 c2 HB HL NU2 WH2
  have F41 := Lib.hid (fun w' => run_from_at w' bb bo p L c (p : Int) rfl (by omega) hc)
  refine region_anyM mixedOrders ?_
  refine anyM_take (i := 0) (oi := ⟨some 38, _, _, _, _, _⟩) (v := .agg #[.string SK, .string SI, .string SM]) rfl (by kernel_rfl) (by kernel_rfl) (by kernel_rfl) (fun _ _ _ h => h) (.inl ⟨by rfl, fun w2 hw2 => ?_⟩) ?_
  · have hx : Below w1.drew.heap.size w1.drew w2 := hw2
    have hc0 := (hx.cell (p := ⟨w.heap.size, 0, none⟩) L1.out).trans K1.out.1
    have hc1 := (hx.cell (p := ⟨w.heap.size, 1, none⟩) L1.out).trans K1.out.2.1
    have hc2 := (hx.cell (p := ⟨w.heap.size, 2, none⟩) L1.out).trans K1.out.2.2
    clear hw2 hx
    go_simp
  simp only [Act.put, List.setIfInBounds_toArray, List.set_cons_succ, List.set_cons_zero]
  refine anyM_take (i := 1) (oi := ⟨some 39, _, _, _, _, _⟩) (v := .slice (some ⟨bb, bo, none⟩) L c) rfl (by kernel_rfl) (by kernel_rfl) (by kernel_rfl) (fun _ _ _ h => h) (.inl ⟨by rfl, fun w2 hw2 => ?_⟩) ?_
  · clear hw2
    go_simp
  simp only [Act.put, List.setIfInBounds_toArray, List.set_cons_succ, List.set_cons_zero]
  refine anyM_take (i := 2) (oi := ⟨some 40, _, _, _, _, _⟩) (v := .int .i64 (p : Int)) rfl (by kernel_rfl) (by kernel_rfl) (by kernel_rfl) (fun _ _ _ h => h) (.inl ⟨by rfl, fun w2 hw2 => ?_⟩) ?_
  · clear hw2
    go_simp
  simp only [Act.put, List.setIfInBounds_toArray, List.set_cons_succ, List.set_cons_zero]
  refine anyM_take (i := 3) (oi := ⟨some 41, _, _, _, _, _⟩) (v := .slice (some ⟨bb, bo + p, none⟩) (L - p) (c - p)) rfl (by kernel_rfl) (by kernel_rfl) (by kernel_rfl) (fun _ _ _ h => h) (.inl ⟨by rfl, fun w2 hw2 => ?_⟩) ?_
  · have hf := F41.out
    clear hw2
    go_simp
  simp only [Act.put, List.setIfInBounds_toArray, List.set_cons_succ, List.set_cons_zero]
  refine anyM_call (i := 4) (o := ⟨some 42, _, _, _, _, _⟩) 30 #[.agg #[.string SK, .string SI, .string SM], .slice (some ⟨bb, bo + p, none⟩) (L - p) (c - p)] (by kernel_rfl) rfl (by rfl) (fun w2 => by go_simp) (fun w8 hw8 => ?_)
  have b8 := Lib.hid (ext_below hw8 B1.out.drew B1.out.drew.size)
  refine (MS.out (some ⟨bb, bo + p, none⟩) (c - p) (by omega) w8 ⟨by unfold maxLen; omega, .inr ⟨bb, bo + p, rfl, Nat.lt_of_lt_of_le HBB.out b8.out.size, fun i hi => by rw [b8.out.cell (p := ⟨bb, bo + p + i, none⟩) HBB.out, Nat.add_assoc]; exact HC.out (p + i) (by omega)⟩⟩).mono ?_
  rintro e w9 ⟨r, rfl, hr9, hm9, hb9⟩
  refine ⟨_, rfl, hb9, ?_⟩
  have M9 := Lib.hid hm9
  have B9 := Lib.hid (b8.out.trans (hb9.mono b8.out.size))
  have hx9 : Below w1.drew.heap.size w1.drew w9 := (show Below w1.drew.heap.size w1.drew w8 from hw8).trans (hb9.mono (show Below w1.drew.heap.size w1.drew w8 from hw8).size)
  have K9 := Lib.hid (show w9.cell? ⟨w.heap.size, 0, none⟩ = some (.string SK) ∧ w9.cell? ⟨w.heap.size, 1, none⟩ = some (.string SI) ∧ w9.cell? ⟨w.heap.size, 2, none⟩ = some (.string SM) from
    ⟨(hx9.cell (p := ⟨w.heap.size, 0, none⟩) L1.out).trans K1.out.1, (hx9.cell (p := ⟨w.heap.size, 1, none⟩) L1.out).trans K1.out.2.1, (hx9.cell (p := ⟨w.heap.size, 2, none⟩) L1.out).trans K1.out.2.2⟩)
  have L9 := Lib.hid (Nat.lt_of_lt_of_le L1.out hx9.size)
  have HRW := Lib.hid (Nat.le_trans b8.out.size hr9)
  clear hw8 b8 hm9 hb9 hx9 hr9 MS F41 K1 L1 B1
  simp only [Act.put, List.setIfInBounds_toArray, List.set_cons_succ, List.set_cons_zero]
  refine anyM_take (i := 5) (oi := ⟨some 37, _, _, _, _, _⟩) (v := .tuple #[.slice (some ⟨r, 0, none⟩) 16 16, .int .i64 0]) rfl (by kernel_rfl) (by kernel_rfl) (by kernel_rfl) (fun _ _ _ h => h) (.inl ⟨by rfl, fun w2 hw2 => ?_⟩) ?_
  · clear hw2
    go_simp
  simp only [Act.put, List.setIfInBounds_toArray, List.set_cons_succ, List.set_cons_zero]
  refine anyM_take (i := 6) (oi := ⟨some 43, _, _, _, _, _⟩) (v := .slice (some ⟨r, 0, none⟩) 16 16) rfl (by kernel_rfl) (by kernel_rfl) (by kernel_rfl) (fun _ _ _ h => h) (.inl ⟨by rfl, fun w2 hw2 => ?_⟩) ?_
  · clear hw2
    go_simp
  simp only [Act.put, List.setIfInBounds_toArray, List.set_cons_succ, List.set_cons_zero]
  refine anyM_take (i := 7) (oi := ⟨some 44, _, _, _, _, _⟩) (v := .int .i64 0) rfl (by kernel_rfl) (by kernel_rfl) (by kernel_rfl) (fun _ _ _ h => h) (.inl ⟨by rfl, fun w2 hw2 => ?_⟩) ?_
  · clear hw2
    go_simp
  simp only [Act.put, List.setIfInBounds_toArray, List.set_cons_succ, List.set_cons_zero]
  refine anyM_take (i := 8) (oi := ⟨some 12, _, _, _, _, _⟩) (v := .slice (some ⟨r, 0, none⟩) 16 16) rfl (by kernel_rfl) (by kernel_rfl) (by kernel_rfl) (fun _ _ _ h => h) (.inl ⟨by rfl, fun w2 hw2 => ?_⟩) ?_
  · clear hw2
    go_simp
  simp only [Act.put, List.setIfInBounds_toArray, List.set_cons_succ, List.set_cons_zero]
  refine anyM_take (i := 9) (oi := ⟨some 13, _, _, _, _, _⟩) (v := .int .i64 0) rfl (by kernel_rfl) (by kernel_rfl) (by kernel_rfl) (fun _ _ _ h => h) (.inl ⟨by rfl, fun w2 hw2 => ?_⟩) ?_
  · clear hw2
    go_simp
  simp only [Act.put, List.setIfInBounds_toArray, List.set_cons_succ, List.set_cons_zero]
  refine anyM_done (by kernel_rfl) (fun w10 hw10 => ?_)
  have b10 : Below w9.heap.size w9 w10 := hw10
  have MB := Lib.hid (bytesIn_later M9.out b10)
  have B10 := Lib.hid (B9.out.trans (b10.mono B9.out.size))
  have K10 := Lib.hid (show w10.cell? ⟨w.heap.size, 0, none⟩ = some (.string SK) ∧ w10.cell? ⟨w.heap.size, 1, none⟩ = some (.string SI) ∧ w10.cell? ⟨w.heap.size, 2, none⟩ = some (.string SM) from
    ⟨(b10.cell (p := ⟨w.heap.size, 0, none⟩) L9.out).trans K9.out.1, (b10.cell (p := ⟨w.heap.size, 1, none⟩) L9.out).trans K9.out.2.1, (b10.cell (p := ⟨w.heap.size, 2, none⟩) L9.out).trans K9.out.2.2⟩)
  have L10 := Lib.hid (Nat.lt_of_lt_of_le L9.out b10.size)
  clear hw10 b10 M9 B9 K9 L9
  go_upto_region 8 with (fail)
  have hm0 := (MB.out).2
  have CR := Lib.hid (show (∀ i, i < 16 → w10.cell? ⟨r, i, none⟩ = some (.int .u8 (n8 (M i)))) ∧ r < w10.heap.size by
    rcases hm0 with h | ⟨b', o', e', hlt', hc'⟩
    · omega
    · injection e' with e'
      injection e' with e1 e2
      subst e1 e2
      exact ⟨fun i hi => by have := hc' i hi; rwa [Nat.zero_add] at this, hlt'⟩)
  clear hm0 MB
  have hLI : (0 : Int) < (L : Int) := by omega
  have hLN : 0 < L := by omega
  refine region_class1 7 (fun w' => Below w10.heap.size w10 w') mixedOrders (by kernel_rfl) (Below.refl _ _).drew rfl ?_
  refine wpQuiet_take (by rfl) (fun K hK => ⟨.slice (some ⟨bb, bo, none⟩) L c, fun w2' hw2 => ?_, hK _ ?_⟩)
  · clear hw2; go_simp
  clear hK K
  simp only [Act.put, List.setIfInBounds_toArray, List.set_cons_succ, List.set_cons_zero]
  refine wpQuiet_take (by rfl) (fun K hK => ⟨.pointer (some ⟨bb, bo, none⟩), fun w2' hw2 => ?_, hK _ ?_⟩)
  · clear hw2; go_simp
  clear hK K
  simp only [Act.put, List.setIfInBounds_toArray, List.set_cons_succ, List.set_cons_zero]
  refine wpQuiet_take (by rfl) (fun K hK => ⟨.int .u8 (n8 (f 0)), fun w2' hw2 => ?_, hK _ ?_⟩)
  · have hc := ((B10.out.trans (hw2.mono B10.out.size)).cell (p := ⟨bb, bo, none⟩) HBB.out).trans HF0.out
    clear hw2
    go_simp
  clear hK K
  simp only [Act.put, List.setIfInBounds_toArray, List.set_cons_succ, List.set_cons_zero]
  refine wpQuiet_take (by rfl) (fun K hK => ⟨.slice (some ⟨r, 0, none⟩) 16 16, fun w2' hw2 => ?_, hK _ ?_⟩)
  · clear hw2; go_simp
  clear hK K
  simp only [Act.put, List.setIfInBounds_toArray, List.set_cons_succ, List.set_cons_zero]
  refine wpQuiet_take (by rfl) (fun K hK => ⟨.pointer (some ⟨r, 0, none⟩), fun w2' hw2 => ?_, hK _ ?_⟩)
  · clear hw2; go_simp
  clear hK K
  simp only [Act.put, List.setIfInBounds_toArray, List.set_cons_succ, List.set_cons_zero]
  refine wpQuiet_take (by rfl) (fun K hK => ⟨.int .u8 (n8 (M 0)), fun w2' hw2 => ?_, hK _ ?_⟩)
  · have hc := (hw2.cell (p := ⟨r, 0, none⟩) CR.out.2).trans (CR.out.1 0 (by omega))
    clear hw2
    go_simp
  clear hK K
  simp only [Act.put, List.setIfInBounds_toArray, List.set_cons_succ, List.set_cons_zero]
  refine wpQuiet_take (by rfl) (fun K hK => ⟨.int .u8 (n8 VV), fun w2' hw2 => ?_, hK _ ?_⟩)
  · go_simp
    go_at_call 31
    refine (veiled_any (f 0) (M 0) w2').mono ?_
    rintro e w5 ⟨rfl, rfl⟩
    rw [VE.out]
    exact ⟨rfl, hw2⟩
  clear hK K
  simp only [Act.put, List.setIfInBounds_toArray, List.set_cons_succ, List.set_cons_zero]
  refine wpQuiet_take0 ?_
  intro w11 hb11
  have B11 := Lib.hid (B10.out.trans (hb11.mono B10.out.size))
  have C11 := Lib.hid (show (∀ i, i < 16 → w11.cell? ⟨r, i, none⟩ = some (.int .u8 (n8 (M i)))) ∧ r < w11.heap.size from ⟨fun i hi => (hb11.cell (p := ⟨r, i, none⟩) CR.out.2).trans (CR.out.1 i hi), Nat.lt_of_lt_of_le CR.out.2 hb11.size⟩)
  have K11 := Lib.hid (show w11.cell? ⟨w.heap.size, 0, none⟩ = some (.string SK) ∧ w11.cell? ⟨w.heap.size, 1, none⟩ = some (.string SI) ∧ w11.cell? ⟨w.heap.size, 2, none⟩ = some (.string SM) from
    ⟨(hb11.cell (p := ⟨w.heap.size, 0, none⟩) L10.out).trans K10.out.1, (hb11.cell (p := ⟨w.heap.size, 1, none⟩) L10.out).trans K10.out.2.1, (hb11.cell (p := ⟨w.heap.size, 2, none⟩) L10.out).trans K10.out.2.2⟩)
  have L11 := Lib.hid (Nat.lt_of_lt_of_le L10.out hb11.size)
  clear hb11 CR K10 L10 B10
  go_upto_region 10 with (fail)
  clear hand2
  have U63 := Lib.hid (fun w' => run_upto_at w' (some ⟨bb, bo, none⟩) (p + s) L c ((p : Int) + (s : Int)) (by omega) (by omega) hc)
  have F69 := Lib.hid (fun w' => run_from_at w' bb bo (p + s) L c ((p : Int) + (s : Int)) (by omega) (by omega) hc)
  rw [hLm] at F69
  refine region_anyM mixedOrders ?_
  refine anyM_take (i := 0) (oi := ⟨some 59, _, _, _, _, _⟩) (v := .slice (some ⟨bb, bo, none⟩) L c) rfl (by kernel_rfl) (by kernel_rfl) (by kernel_rfl) (fun _ _ _ h => h) (.inl ⟨by rfl, fun w2 hw2 => ?_⟩) ?_
  · clear hw2
    go_simp
  simp only [Act.put, List.setIfInBounds_toArray, List.set_cons_succ, List.set_cons_zero]
  refine anyM_take (i := 1) (oi := ⟨some 60, _, _, _, _, _⟩) (v := .int .i64 (p : Int)) rfl (by kernel_rfl) (by kernel_rfl) (by kernel_rfl) (fun _ _ _ h => h) (.inl ⟨by rfl, fun w2 hw2 => ?_⟩) ?_
  · clear hw2
    go_simp
  simp only [Act.put, List.setIfInBounds_toArray, List.set_cons_succ, List.set_cons_zero]
  refine anyM_take (i := 2) (oi := ⟨some 61, _, _, _, _, _⟩) (v := .int .i64 (s : Int)) rfl (by kernel_rfl) (by kernel_rfl) (by kernel_rfl) (fun _ _ _ h => h) (.inl ⟨by rfl, fun w2 hw2 => ?_⟩) ?_
  · clear hw2
    go_simp
  simp only [Act.put, List.setIfInBounds_toArray, List.set_cons_succ, List.set_cons_zero]
  refine anyM_take (i := 3) (oi := ⟨some 62, _, _, _, _, _⟩) (v := .int .i64 ((p : Int) + (s : Int))) rfl (by kernel_rfl) (by kernel_rfl) (by kernel_rfl) (fun _ _ _ h => h) (.inl ⟨by rfl, fun w2 hw2 => ?_⟩) ?_
  · clear hw2
    go_simp
  simp only [Act.put, List.setIfInBounds_toArray, List.set_cons_succ, List.set_cons_zero]
  refine anyM_take (i := 4) (oi := ⟨some 63, _, _, _, _, _⟩) (v := .slice (some ⟨bb, bo, none⟩) (p + s) c) rfl (by kernel_rfl) (by kernel_rfl) (by kernel_rfl) (fun _ _ _ h => h) (.inl ⟨by rfl, fun w2 hw2 => ?_⟩) ?_
  · have hf := U63.out
    clear hw2
    go_simp
  simp only [Act.put, List.setIfInBounds_toArray, List.set_cons_succ, List.set_cons_zero]
  refine anyM_take (i := 6) (oi := ⟨some 65, _, _, _, _, _⟩) (v := .slice (some ⟨bb, bo, none⟩) L c) rfl (by kernel_rfl) (by kernel_rfl) (by kernel_rfl) (fun _ _ _ h => h) (.inl ⟨by rfl, fun w2 hw2 => ?_⟩) ?_
  · clear hw2
    go_simp
  simp only [Act.put, List.setIfInBounds_toArray, List.set_cons_succ, List.set_cons_zero]
  refine anyM_take (i := 7) (oi := ⟨some 66, _, _, _, _, _⟩) (v := .int .i64 (p : Int)) rfl (by kernel_rfl) (by kernel_rfl) (by kernel_rfl) (fun _ _ _ h => h) (.inl ⟨by rfl, fun w2 hw2 => ?_⟩) ?_
  · clear hw2
    go_simp
  simp only [Act.put, List.setIfInBounds_toArray, List.set_cons_succ, List.set_cons_zero]
  refine anyM_take (i := 8) (oi := ⟨some 67, _, _, _, _, _⟩) (v := .int .i64 (s : Int)) rfl (by kernel_rfl) (by kernel_rfl) (by kernel_rfl) (fun _ _ _ h => h) (.inl ⟨by rfl, fun w2 hw2 => ?_⟩) ?_
  · clear hw2
    go_simp
  simp only [Act.put, List.setIfInBounds_toArray, List.set_cons_succ, List.set_cons_zero]
  refine anyM_take (i := 9) (oi := ⟨some 68, _, _, _, _, _⟩) (v := .int .i64 ((p : Int) + (s : Int))) rfl (by kernel_rfl) (by kernel_rfl) (by kernel_rfl) (fun _ _ _ h => h) (.inl ⟨by rfl, fun w2 hw2 => ?_⟩) ?_
  · clear hw2
    go_simp
  simp only [Act.put, List.setIfInBounds_toArray, List.set_cons_succ, List.set_cons_zero]
  refine anyM_take (i := 10) (oi := ⟨some 69, _, _, _, _, _⟩) (v := .slice (some ⟨bb, bo + (p + s), none⟩) (m + 16) (c - (p + s))) rfl (by kernel_rfl) (by kernel_rfl) (by kernel_rfl) (fun _ _ _ h => h) (.inl ⟨by rfl, fun w2 hw2 => ?_⟩) ?_
  · have hf := F69.out
    clear hw2
    go_simp
  simp only [Act.put, List.setIfInBounds_toArray, List.set_cons_succ, List.set_cons_zero]
  refine anyM_call (i := 5) (o := ⟨some 64, _, _, _, _, _⟩) 37 #[.slice (some ⟨bb, bo, none⟩) (p + s) c] (by kernel_rfl) rfl (by rfl) (fun w2 => by go_simp) (fun w12 hw12 => ?_)
  have b12 := Lib.hid (show Below w11.drew.heap.size w11.drew w12 from hw12)
  have B12 := Lib.hid (ext_below hw12 B11.out.drew B11.out.drew.size)
  refine (clone_any bb bo (p + s) c f w12 ⟨by unfold maxLen; omega, .inr ⟨bb, bo, rfl, Nat.lt_of_lt_of_le HBB.out B12.out.size, fun i hi => (B12.out.cell (p := ⟨bb, bo + i, none⟩) HBB.out).trans (HC.out i (by omega))⟩⟩ (by omega)).mono ?_
  rintro e w13 ⟨v13, rfl, o13, hb13⟩
  refine ⟨_, rfl, hb13, ?_⟩
  obtain ⟨g, cg, rfl, hg13, hcg, hcgm, ra13⟩ := o13.rowAt (by omega)
  have RA13 := Lib.hid ra13
  have B13 := Lib.hid (B12.out.trans (hb13.mono B12.out.size))
  have b13 := Lib.hid (b12.out.trans (hb13.mono b12.out.size))
  have hrg : r < g := Nat.lt_of_lt_of_le (Nat.lt_of_lt_of_le C11.out.2 b12.out.size) hg13
  have hwg : w.heap.size < g := Nat.lt_of_lt_of_le L11.out (Nat.le_trans b12.out.size hg13)
  clear hw12 b12 B12 o13 ra13 hb13 U63 F69 B11
  simp only [Act.put, List.setIfInBounds_toArray, List.set_cons_succ, List.set_cons_zero]
  refine anyM_take (i := 11) (oi := ⟨some 16, _, _, _, _, _⟩) (v := .slice (some ⟨g, 0, none⟩) (p + s) cg) rfl (by kernel_rfl) (by kernel_rfl) (by kernel_rfl) (fun _ _ _ h => h) (.inl ⟨by rfl, fun w2 hw2 => ?_⟩) ?_
  · clear hw2
    go_simp
  simp only [Act.put, List.setIfInBounds_toArray, List.set_cons_succ, List.set_cons_zero]
  refine anyM_take (i := 12) (oi := ⟨some 17, _, _, _, _, _⟩) (v := .slice (some ⟨bb, bo + (p + s), none⟩) (m + 16) (c - (p + s))) rfl (by kernel_rfl) (by kernel_rfl) (by kernel_rfl) (fun _ _ _ h => h) (.inl ⟨by rfl, fun w2 hw2 => ?_⟩) ?_
  · clear hw2
    go_simp
  simp only [Act.put, List.setIfInBounds_toArray, List.set_cons_succ, List.set_cons_zero]
  refine anyM_done (by kernel_rfl) (fun w14 hw14 => ?_)
  have h14 : Below w13.heap.size w13 w14 := hw14
  have b14 := Lib.hid (b13.out.trans (h14.mono b13.out.size))
  have B14 := Lib.hid (B13.out.trans (h14.mono B13.out.size))
  have RA14 := Lib.hid (RA13.out.later h14)
  have C14 := Lib.hid (show (∀ i, i < 16 → w14.cell? ⟨r, i, none⟩ = some (.int .u8 (n8 (M i)))) ∧ r < w14.heap.size from ⟨fun i hi => (b14.out.cell (p := ⟨r, i, none⟩) C11.out.2).trans (C11.out.1 i hi), Nat.lt_of_lt_of_le C11.out.2 b14.out.size⟩)
  have K14 := Lib.hid (show w14.cell? ⟨w.heap.size, 0, none⟩ = some (.string SK) ∧ w14.cell? ⟨w.heap.size, 1, none⟩ = some (.string SI) ∧ w14.cell? ⟨w.heap.size, 2, none⟩ = some (.string SM) from
    ⟨(b14.out.cell (p := ⟨w.heap.size, 0, none⟩) L11.out).trans K11.out.1, (b14.out.cell (p := ⟨w.heap.size, 1, none⟩) L11.out).trans K11.out.2.1, (b14.out.cell (p := ⟨w.heap.size, 2, none⟩) L11.out).trans K11.out.2.2⟩)
  clear hw14 h14 b14 b13 B13 RA13 C11 K11 L11
  have cz := RA14.out.at 0 (by omega)
  have fz := RA14.out.free 0 (by omega)
  rw [Nat.add_zero] at cz fz
  have hpsI : (0 : Int) < (p : Int) + (s : Int) := by omega
  go_upto_region 12 with (fail)
  have RD := RA14.out.set 0 VV
  rw [Nat.add_zero] at RD
  have hne : r ≠ g := by omega
  have hh : (w14.setCell ⟨g, 0, none⟩ (.int .u8 (n8 VV))).heap[r]? = w14.heap[r]? := heap_setCell_other _ _ _ _ hne
  have hk : (w14.setCell ⟨g, 0, none⟩ (.int .u8 (n8 VV))).heap[w.heap.size]? = w14.heap[w.heap.size]? := heap_setCell_other _ _ _ _ (show w.heap.size ≠ g by omega)
  have CRD := Lib.hid (show (∀ i, i < 16 → (w14.setCell ⟨g, 0, none⟩ (.int .u8 (n8 VV))).cell? ⟨r, i, none⟩ = some (.int .u8 (n8 (M i)))) ∧ r < (w14.setCell ⟨g, 0, none⟩ (.int .u8 (n8 VV))).heap.size from
    ⟨fun i hi => by
      have h2 := C14.out.1 i hi
      unfold World.cell? at h2 ⊢
      simp only [hh]
      exact h2, by
      have h3 := C14.out.2
      simpa using h3⟩)
  have KRD := Lib.hid (show (w14.setCell ⟨g, 0, none⟩ (.int .u8 (n8 VV))).cell? ⟨w.heap.size, 0, none⟩ = some (.string SK) ∧ (w14.setCell ⟨g, 0, none⟩ (.int .u8 (n8 VV))).cell? ⟨w.heap.size, 1, none⟩ = some (.string SI) ∧ (w14.setCell ⟨g, 0, none⟩ (.int .u8 (n8 VV))).cell? ⟨w.heap.size, 2, none⟩ = some (.string SM) by
    have h2 := K14.out
    unfold World.cell? at h2 ⊢
    simp only [hk]
    exact h2)
  have BD := Lib.hid (B14.out.setCell (Nat.le_of_lt hwg) (p := ⟨g, 0, none⟩) (.int .u8 (n8 VV)))
  have RDD := Lib.hid RD
  clear RD RA14 C14 K14 B14 hh hk cz fz
  generalize w14.setCell _ _ = wd at *
  have F75 := Lib.hid (fun w' => run_from_at w' g 0 p (p + s) cg (p : Int) rfl (by omega) hcg)
  rw [Nat.zero_add, show p + s - p = s by omega] at F75
  have F77 := Lib.hid (fun w' => run_from_at w' r 0 1 16 16 1 rfl (by omega) (by omega))
  rw [Nat.zero_add] at F77
  refine region_class1 5 (fun w' => Below wd.heap.size wd w') mixedOrders (by kernel_rfl) (Below.refl _ _).drew rfl ?_
  refine wpQuiet_take (by rfl) (fun K hK => ⟨.slice (some ⟨g, 0, none⟩) (p + s) cg, fun w2' hw2 => ?_, hK _ ?_⟩)
  · clear hw2; go_simp
  clear hK K
  simp only [Act.put, List.setIfInBounds_toArray, List.set_cons_succ, List.set_cons_zero]
  refine wpQuiet_take (by rfl) (fun K hK => ⟨.int .i64 (p : Int), fun w2' hw2 => ?_, hK _ ?_⟩)
  · clear hw2; go_simp
  clear hK K
  simp only [Act.put, List.setIfInBounds_toArray, List.set_cons_succ, List.set_cons_zero]
  refine wpQuiet_take (by rfl) (fun K hK => ⟨.slice (some ⟨g, p, none⟩) s (cg - p), fun w2' hw2 => ?_, hK _ ?_⟩)
  · have hc := F75.out
    clear hw2
    go_simp
  clear hK K
  simp only [Act.put, List.setIfInBounds_toArray, List.set_cons_succ, List.set_cons_zero]
  refine wpQuiet_take (by rfl) (fun K hK => ⟨.slice (some ⟨r, 0, none⟩) 16 16, fun w2' hw2 => ?_, hK _ ?_⟩)
  · clear hw2; go_simp
  clear hK K
  simp only [Act.put, List.setIfInBounds_toArray, List.set_cons_succ, List.set_cons_zero]
  refine wpQuiet_take (by rfl) (fun K hK => ⟨.slice (some ⟨r, 1, none⟩) 15 15, fun w2' hw2 => ?_, hK _ ?_⟩)
  · have hc := F77.out
    clear hw2
    go_simp
  clear hK K
  simp only [Act.put, List.setIfInBounds_toArray, List.set_cons_succ, List.set_cons_zero]
  refine wpQuiet_take0 ?_
  intro w15 hb15
  have tg := gtogetherAt g 0 p s (cg - p) (p + s) (updb f 0 VV) (some ⟨r, 1, none⟩) 15 15 (fun i => M (1 + i)) w15 (RDD.out.later hb15) (by omega)
    ⟨by unfold maxLen; omega, .inr ⟨r, 1, rfl, Nat.lt_of_lt_of_le CRD.out.2 hb15.size, fun i hi => (hb15.cell (p := ⟨r, 1 + i, none⟩) CRD.out.2).trans (CRD.out.1 (1 + i) (by omega))⟩⟩ (by omega) (fun x hx => by injection hx with hx; subst hx; exact hne)
  rw [Nat.zero_add, ← HH.out] at tg
  have TG := Lib.hid tg
  have B15 := Lib.hid (BD.out.trans (hb15.mono BD.out.size))
  have LD := Lib.hid (show w.heap.size < wd.heap.size from Nat.lt_of_lt_of_le hwg (Nat.le_of_lt RDD.out.lt))
  have K15 := Lib.hid (show w15.cell? ⟨w.heap.size, 0, none⟩ = some (.string SK) ∧ w15.cell? ⟨w.heap.size, 1, none⟩ = some (.string SI) ∧ w15.cell? ⟨w.heap.size, 2, none⟩ = some (.string SM) from
    ⟨(hb15.cell (p := ⟨w.heap.size, 0, none⟩) LD.out).trans KRD.out.1, (hb15.cell (p := ⟨w.heap.size, 1, none⟩) LD.out).trans KRD.out.2.1, (hb15.cell (p := ⟨w.heap.size, 2, none⟩) LD.out).trans KRD.out.2.2⟩)
  clear hb15 RDD CRD KRD BD F75 F77 tg LD
  go_upto_region 13 with (go_at_call 32; refine TG.out.mono ?_; rintro e w16 ⟨rfl, ra16, hb16, ho16⟩; have R16 := Lib.hid ra16; have B16 := Lib.hid (B15.out.trans (hb16 w.heap.size (Nat.le_of_lt hwg))); have O16 := Lib.hid (ho16 w.heap.size (by omega)); clear ra16 hb16 ho16)
  clear TG B15
  have K16 := Lib.hid (show w16.cell? ⟨w.heap.size, 0, none⟩ = some (.string SK) ∧ w16.cell? ⟨w.heap.size, 1, none⟩ = some (.string SI) ∧ w16.cell? ⟨w.heap.size, 2, none⟩ = some (.string SM) by
    have h2 := K15.out
    unfold World.cell? at h2 ⊢
    simp only [O16.out]
    exact h2)
  clear K15 O16
  have f82 := fun w' => run_from_at w' g 0 p (p + s) cg (p : Int) rfl (by omega) hcg
  rw [Nat.zero_add, show p + s - p = s by omega] at f82
  have V16 := Lib.hid (VO.out (some ⟨g, p, none⟩) (cg - p) w16 ⟨by unfold maxLen; omega, .inr ⟨g, p, rfl, R16.out.lt, fun i hi => by have := R16.out.at (p + i) (by omega); rwa [Nat.zero_add] at this⟩⟩)
  have W16 := Lib.hid (WL.out w16)
  have hb6 := R16.out.bytesIn (by unfold maxLen; omega)
  have B6 := Lib.hid hb6
  have X16 := Lib.hid (show BytesIn w16 (some ⟨bb, bo + (p + s), none⟩) (m + 16) (fun i => f (p + s + i)) from ⟨by unfold maxLen; omega, .inr ⟨bb, bo + (p + s), rfl, Nat.lt_of_lt_of_le HBB.out B16.out.size, fun i hi => by rw [B16.out.cell (p := ⟨bb, bo + (p + s) + i, none⟩) HBB.out, Nat.add_assoc bo]; exact HC.out (p + s + i) (by omega)⟩⟩)
  have OP16 := Lib.hid (OP.out (some ⟨g, 0, none⟩) (some ⟨bb, bo + (p + s), none⟩) cg (c - (p + s)) hcg hcgm (by omega) (by omega) w16 B6.out X16.out)
  clear hb6 VO WL OP X16
  go_upto_region 16 with (first
    | (go_at_call 39; refine V16.out.mono ?_; rintro e w17 ⟨rfl, rfl⟩)
    | (go_at_call 38; refine W16.out.mono ?_; rintro e w17 ⟨rfl, rfl⟩))
  clear f82 V16 W16
  obtain ⟨k0, k1, k2⟩ := K16.out
  go_wp2_with fail
  refine OP16.out.mono ?_
  rintro e w18 ⟨hb18, ⟨hE, r2, rfl, hr2, hin⟩ | ⟨hE, rfl⟩⟩
  · have B18 := Lib.hid (B16.out.trans (hb18.mono B16.out.size))
    have HE := Lib.hid hE
    have HI := Lib.hid hin
    have BH := Lib.hid (bytesIn_later B6.out hb18)
    clear hE hin hb18 k0 k1 k2
    go_wp2_with fail
    try simp only [Exit.inBlock, Exit.then]
    refine bodyPost_ret (results_tmp4 rfl _ _ _) rfl ?_
    exact ⟨B18.out, .inl ⟨HE.out, g, cg, r2, rfl, hcg, hcgm, BH.out, HI.out⟩⟩
  · have B18 := Lib.hid (B16.out.trans (hb18.mono B16.out.size))
    have HE := Lib.hid hE
    clear hE hb18 k0 k1 k2
    go_wp2_with fail
    try simp only [Exit.inBlock, Exit.then]
    refine bodyPost_ret (results_tmp4 rfl _ _ _) rfl ?_
    exact ⟨B18.out, .inr ⟨HE.out, rfl⟩⟩
end Go.Proofs.YtjbpjoondmcnlabDoor
