/-
  GUARD's Open of bytes that are long enough: the document's.
-/
import Derived.Test.YtjbpjoondmcnlabDoorGoC
import Derived.Test.YtjbpjoondmcnlabDoorGsF
namespace Go.Proofs.YtjbpjoondmcnlabDoor
open Go Go.RowKit Go.BigFrame
set_option linter.unusedSimpArgs false
set_option linter.unusedVariables false
set_option maxRecDepth 100000
def docO (ok : Bool) (H : ByteArray) (N : Int) (C : ByteArray) : Value := if ok then .tuple #[.string H, .int .i64 N, .string C, .int .i64 0] else .tuple #[.string ⟨#[]⟩, .int .i64 0, .string ⟨#[]⟩, .int .i64 4]
theorem low_step (x : Nat) (b : BitVec 8) (hx : x < 16777216) : wrap64 ((x : Int) * 256 + wrap64 (n8 b)) = ((x * 256 + b.toNat : Nat) : Int) := by
  have hb := b.isLt
  rw [n8_nat]
  unfold wrap64
  omega
set_option maxHeartbeats 16000000 in
theorem docOpen_any (k iv mk f : Nat → BitVec 8) (E : Int) (h0 : 0 ≤ E) (h1 : E ≤ 4611686018427387903) (p L s : Nat) (hp : 1 ≤ p) (hL : p + 20 ≤ L) (hL2 : L ≤ 4000) (hs : opnS mk f p = s) (w : World) :
    Calls Tryd.prog 13 #[.agg (kysC (strOf k 16) (strOf iv 12) (strOf mk 16)), .string (strOf f L), .int .i64 (p : Int), .int .i64 E] w
      fun e w' => e = .returned (docO (opnOk k iv mk f E p L s) (strOf (hidP mk f p s) (p + s)) (opnN mk f p s E) (strOf (opnC k iv mk f E p s) (L - (p + s) - 16))) ∧ Below w.heap.size w w' := by
  have R0 : (w.alloc (.cells (kysC (strOf k 16) (strOf iv 12) (strOf mk 16)) 23)).heap[w.heap.size]? = some (.cells (kysC (strOf k 16) (strOf iv 12) (strOf mk 16)) 23 (0, 0)) := heap_alloc_last _ _
  have hb1 : Below w.heap.size w (w.alloc (.cells (kysC (strOf k 16) (strOf iv 12) (strOf mk 16)) 23)) := (Below.refl w.heap.size w).alloc (Nat.le_refl _) _
  have HB := Lib.hid hb1
  have HL := Lib.hid (show w.heap.size < (w.alloc (.cells (kysC (strOf k 16) (strOf iv 12) (strOf mk 16)) 23)).heap.size by simp)
  have CC := Lib.hid (kys_cells R0)
  have WH2 := Lib.hid (by have := right_any (strOf k 16) (strOf iv 12) (strOf mk 16) 16 12 16 (strOf_size _ _) (strOf_size _ _) (strOf_size _ _) (w.alloc (.cells (kysC (strOf k 16) (strOf iv 12) (strOf mk 16)) 23)); rw [decide_eq_true (show 16 = 16 ∧ 12 = 12 ∧ 16 = 16 from ⟨rfl, rfl, rfl⟩)] at this; exact this)
  have hsr : 1 ≤ s ∧ s ≤ 4 := by unfold opnS at hs; omega
  obtain ⟨hs1, hs4⟩ := hsr
  obtain ⟨m, hm⟩ : ∃ m, L - (p + s) - 16 = m := ⟨_, rfl⟩
  have hLm : L - (p + s) = m + 16 := by omega
  have hnn := wholeF_in s hs1 hs4 ((numG (fun i => hidP mk f p s (p + i)) s : Nat) : Int) E (by omega) (numG_ltI _ s) h0 h1
  have WL := Lib.hid (fun w' => rwhole_any s hs1 hs4 ((numG (fun i => hidP mk f p s (p + i)) s : Nat) : Int) E (by omega) (numG_ltI _ s) h0 h1 w')
  have NO := Lib.hid (fun w' => rnonce_any iv (opnN mk f p s E) hnn.1 hnn.2 w')
  have MK0 := Lib.hid (fun w' => masked_any mk f (strOf k 16) (strOf iv 12) L p 0 (by omega) hp hL (by omega) w')
  have MKs := Lib.hid (fun w' => masked_any mk f (strOf k 16) (strOf iv 12) L p s hs4 hp hL (by omega) w')
  have i0 := fun w' => run_at_str (hidP mk f p 0) L 0 (by omega) w'
  have hv0 : hidP mk f p 0 0 = veilF (f 0) (mskF mk (fun i => f (p + i)) 0) := by
    unfold hidP togF
    rw [if_neg (by omega)]
    unfold updb
    simp
  rw [hv0] at i0
  have hq5 : (wrap64 (n8 (veilF (f 0) (mskF mk (fun i => f (p + i)) 0)))).tmod 4 = (s : Int) - 1 := by
    unfold opnS at hs
    have h8 := (veilF (f 0) (mskF mk (fun i => f (p + i)) 0)).isLt
    rw [show wrap64 (n8 (veilF (f 0) (mskF mk (fun i => f (p + i)) 0))) = n8 (veilF (f 0) (mskF mk (fun i => f (p + i)) 0)) by rw [n8_nat]; unfold wrap64; omega, Int.tmod_eq_emod_of_nonneg (by rw [n8_nat]; omega), n8_nat]
    omega
  have IX := Lib.hid (fun (j : Nat) (hj : p + j < L) (w' : World) => (by have h := run_at_str (hidP mk f p s) L (p + j) hj w'; rw [Int.natCast_add] at h; exact h : (Instr.index 9 (.string (strOf (hidP mk f p s) L)) (.int .i64 ((p : Int) + (j : Int)))).run Tryd.prog w' = .ok (.int .u8 (n8 (hidP mk f p s (p + j)))) w'))
  have U85 := fun w' => run_str_upto (hidP mk f p s) L (p + s) ((p : Int) + (s : Int)) (by omega) (by omega) w'
  have F98 := Lib.hid (fun w' => run_str_from (hidP mk f p s) L (p + s) ((p : Int) + (s : Int)) (by omega) (by omega) w')
  rw [hLm] at F98
  have eb : strOf (fun i => hidP mk f p s (p + s + i)) (m + 16) = strOf (fun i => f (p + s + i)) (m + 16) := (strOf_eq _ _ _).2 (fun i hi => by
    unfold hidP togF
    rw [if_neg (by omega)]
    unfold updb
    rw [if_neg (by omega)])
  rw [eb] at F98
  have OD := openD_ok k (nonTo iv (opnN mk f p s E) 8) (hidP mk f p s) (fun i => f (p + s + i)) (p + s) m
  have DOk : opnOk k iv mk f E p L s = openE (sched k) (hOf (sched k)) (nonTo iv (opnN mk f p s E) 8) (hidP mk f p s) (p + s) (fun i => f (p + s + i)) m := by unfold opnOk; rw [hm]
  have DC : opnC k iv mk f E p s = hid (sched k) (nonTo iv (opnN mk f p s E) 8) (fun i => f (p + s + i)) := rfl
  have DN : wholeF (256 ^ s) ((numG (fun i => hidP mk f p s (p + i)) s : Nat) : Int) E = opnN mk f p s E := rfl
  have OD2 := Lib.hid (show ∃ ok, ok = opnOk k iv mk f E p L s ∧ ∀ w', Calls Tryd.prog 34 #[.string (strOf k 16), .string (strOf (nonTo iv (opnN mk f p s E) 8) 12), .string (strOf (hidP mk f p s) (p + s)), .string (strOf (fun i => f (p + s + i)) (m + 16))] w' fun e w2 => e = .returned (if ok then .tuple #[.string (strOf (opnC k iv mk f E p s) m), .int .i64 0] else .tuple #[.string ⟨#[]⟩, .int .i64 4]) ∧ Below w'.heap.size w' w2 by
    refine ⟨_, rfl, fun w' => (OD w' (by omega) (by omega)).mono ?_⟩
    rintro e w2 ⟨hb, ⟨hE, rfl⟩ | ⟨hE, rfl⟩⟩
    · rw [DOk, hE, DC]; exact ⟨rfl, hb⟩
    · rw [DOk, hE]; exact ⟨rfl, hb⟩)
  rw [DN] at WL
  rw [hm]
  obtain ⟨ok, hok, hod⟩ := OD2.out
  rw [← hok]
  have OO := Lib.hid hod
  have HP4 := Lib.hid (fun j (hj : j ≤ 3) => numG_lt (fun i => hidP mk f p s (p + i)) j)
  have szC := strOf_size (opnC k iv mk f E p s) m
  have szB := strOf_size f L
  clear DOk DC DN hnn OD hv0 eb hok hod OD2 hm hs
  generalize opnN mk f p s E = NN at *
  obtain ⟨LG, hLG⟩ : ∃ LG : Nat → Nat, ∀ j, numG (fun i => hidP mk f p s (p + i)) j = LG j := ⟨_, fun _ => rfl⟩
  have LG0 : LG 0 = 0 := by rw [← hLG]; rfl
  have LGS := Lib.hid (fun j => show LG (j + 1) = LG j * 256 + (hidP mk f p s (p + j)).toNat by rw [← hLG, ← hLG]; rfl)
  simp only [hLG] at WL HP4
  clear hLG
  generalize veilF (f 0) (mskF mk (fun i => f (p + i)) 0) = VV at *
  generalize strOf (opnC k iv mk f E p s) m = SCC at *
  generalize strOf (fun i => f (p + s + i)) (m + 16) = SBD at *
  generalize strOf (hidP mk f p s) (p + s) = SHD at *
  generalize strOf (hidP mk f p s) L = SBR at *
  generalize strOf (hidP mk f p 0) L = SB0 at *
  generalize hidP mk f p s = HP at *
  generalize strOf (nonTo iv NN 8) 12 = SN at *
  generalize strOf f L = SB at *
  have hpL : ¬ (L : Int) - (p : Int) < 20 := by omega
  have hpL2 : ¬ (p : Int) > (L : Int) := by omega
  have hPn : ¬ (p : Int) < 1 := by omega
  have hE1 : ¬ E < 0 := by omega
  have hE2 : ¬ E > 4611686018427387903 := by omega
  have hwr : IntKind.wrap .i64 ((L : Int) - (p : Int)) = (L : Int) - (p : Int) := by simp only [IntKind.wrap, IntKind.bits, IntKind.signed]; simp; omega
  have hwps : IntKind.wrap .i64 ((p : Int) + (s : Int)) = (p : Int) + (s : Int) := by simp only [IntKind.wrap, IntKind.bits, IntKind.signed]; simp; omega
  simp only [Int.ofNat_zero, Int.natCast_zero] at i0
  obtain ⟨c0, c1, c2⟩ := CC.out
  clear hb1 R0
  unfold kysC at *
  generalize strOf k 16 = SK at *
  generalize strOf iv 12 = SI at *
  generalize strOf mk 16 = SM at *
  go_enter Tryd.func13, Tryd.ntmps13
  go_upto_region 5 with (go_at_call 21; refine WH2.out.mono ?_; rintro e w1 ⟨rfl, hb⟩; have B1 := Lib.hid (HB.out.trans (hb.mono HB.out.size)); have L1 := Lib.hid (Nat.lt_of_lt_of_le HL.out hb.size); have c1' := Lib.hid (fun (i : Nat) => hb.cell (p := ⟨w.heap.size, i, none⟩) HL.out); clear hb)
  have K1 := Lib.hid (fun (w' : World) (h : Below w1.heap.size w1 w') => show w'.cell? ⟨w.heap.size, 0, none⟩ = some (.string SK) ∧ w'.cell? ⟨w.heap.size, 1, none⟩ = some (.string SI) ∧ w'.cell? ⟨w.heap.size, 2, none⟩ = some (.string SM) from
    ⟨(h.cell (p := ⟨w.heap.size, 0, none⟩) L1.out).trans ((c1'.out 0).trans CC.out.1), (h.cell (p := ⟨w.heap.size, 1, none⟩) L1.out).trans ((c1'.out 1).trans CC.out.2.1), (h.cell (p := ⟨w.heap.size, 2, none⟩) L1.out).trans ((c1'.out 2).trans CC.out.2.2)⟩)
  clear c1' CC c0 c1 c2 HL WH2 hpL hpL2 hPn hE1 hE2 hwr
  obtain ⟨c0, c1, c2⟩ := K1.out w1 (Below.refl _ _)
  go_upto_region 6 with (go_at_call 24; refine (MK0.out _).mono ?_; rintro e w2 ⟨rfl, hb⟩; have b2 := Lib.hid hb; clear hb)
  clear c0 c1 c2 i0 hq5 MK0
  obtain ⟨c0, c1, c2⟩ := K1.out w2 b2.out
  go_upto_region 7 with (go_at_call 24; refine (MKs.out _).mono ?_; rintro e w3 ⟨rfl, hb⟩; have b3 := Lib.hid (b2.out.trans (hb.mono b2.out.size)); clear hb)
  clear c0 c1 c2 MKs b2
  go_upto_region 9 with (fail)
  go_loopw [14, 15] (fun s14 s15 wr => ∃ j : Nat, j ≤ s ∧ w3 = wr ∧ s15 = .int .i64 (j : Int) ∧ s14 = .int .i64 ((LG j : Nat) : Int)) (fun _ s15 _ => ((s : Int) - intOf s15).toNat)
  case atStart => exact ⟨0, by omega, rfl, rfl, by rw [LG0]; rfl⟩
  case round =>
    obtain ⟨j, hj, hw, h15, h14⟩ := hrel
    have HW := Lib.hid hw
    clear hw
    by_cases hlt : j < s
    · subst h15 h14
      have hx := IX.out j (by omega) wr
      have hji : (j : Int) < (s : Int) := by omega
      have hj4 : LG j < 16777216 := Nat.lt_of_lt_of_le (HP4.out j (by omega)) (Nat.le_trans (Nat.pow_le_pow_right (by decide) (show j ≤ 3 by omega)) (by decide))
      go_wp2_with fail
      have hb := (HP (p + j)).isLt
      exact ⟨⟨j + 1, by omega, HW.out, by congr 1, by rw [low_step _ _ hj4, LGS.out j]⟩, by simp [intOf]; omega⟩
    · have hjs : s = j := Nat.le_antisymm (Nat.le_of_not_lt hlt) hj
      clear hj hlt
      subst hjs
      subst h15 h14
      have hN : ¬ ((s : Int) < (s : Int)) := Int.lt_irrefl _
      have hw := HW.out
      subst hw
      go_upto_region 14 with (go_at_call 33; refine (WL.out _).mono ?_; rintro e w4 ⟨rfl, rfl⟩)
      cases ok
      · have OB := Lib.hid (show ∀ w', Calls Tryd.prog 34 #[.string SK, .string SN, .string SHD, .string SBD] w' fun e w2 => e = .returned (.tuple #[.string ⟨#[]⟩, .int .i64 4]) ∧ Below w'.heap.size w' w2 from OO.out)
        clear OO
        refine region_class1 17 (fun w' => Below w3.heap.size w3 w') mixedOrders (by kernel_rfl) (Below.refl _ _).drew rfl ?_
        refine wpQuiet_take (by rfl) (fun K hK => ⟨.pointer (some ⟨w.heap.size, 0, none⟩), fun w2' hw2 => ?_, hK _ ?_⟩)
        · clear hw2; go_simp
        clear hK K
        simp only [Act.put, List.setIfInBounds_toArray, List.set_cons_succ, List.set_cons_zero]
        refine wpQuiet_take (by rfl) (fun K hK => ⟨.string SK, fun w2' hw2 => ?_, hK _ ?_⟩)
        · have hc := (K1.out w2' (b3.out.trans (hw2.mono b3.out.size))).1
          clear hw2
          go_simp
        clear hK K
        simp only [Act.put, List.setIfInBounds_toArray, List.set_cons_succ, List.set_cons_zero]
        refine wpQuiet_take (by rfl) (fun K hK => ⟨.pointer (some ⟨w.heap.size, 1, none⟩), fun w2' hw2 => ?_, hK _ ?_⟩)
        · clear hw2; go_simp
        clear hK K
        simp only [Act.put, List.setIfInBounds_toArray, List.set_cons_succ, List.set_cons_zero]
        refine wpQuiet_take (by rfl) (fun K hK => ⟨.string SI, fun w2' hw2 => ?_, hK _ ?_⟩)
        · have hc := (K1.out w2' (b3.out.trans (hw2.mono b3.out.size))).2.1
          clear hw2
          go_simp
        clear hK K
        simp only [Act.put, List.setIfInBounds_toArray, List.set_cons_succ, List.set_cons_zero]
        refine wpQuiet_take (by rfl) (fun K hK => ⟨.int .i64 NN, fun w2' hw2 => ?_, hK _ ?_⟩)
        · clear hw2; go_simp
        clear hK K
        simp only [Act.put, List.setIfInBounds_toArray, List.set_cons_succ, List.set_cons_zero]
        refine wpQuiet_take (by rfl) (fun K hK => ⟨.string SN, fun w2' hw2 => ?_, hK _ ?_⟩)
        · go_simp
          go_at_call 23
          refine (NO.out w2').mono ?_
          rintro e w5 ⟨rfl, hb5⟩
          exact ⟨rfl, hw2.trans (hb5.mono hw2.size)⟩
        clear hK K
        simp only [Act.put, List.setIfInBounds_toArray, List.set_cons_succ, List.set_cons_zero]
        refine wpQuiet_take (by rfl) (fun K hK => ⟨.string SHD, fun w2' hw2 => ?_, hK _ ?_⟩)
        · clear hw2; go_simp
        clear hK K
        simp only [Act.put, List.setIfInBounds_toArray, List.set_cons_succ, List.set_cons_zero]
        refine wpQuiet_take (by rfl) (fun K hK => ⟨.string SBR, fun w2' hw2 => ?_, hK _ ?_⟩)
        · clear hw2; go_simp
        clear hK K
        simp only [Act.put, List.setIfInBounds_toArray, List.set_cons_succ, List.set_cons_zero]
        refine wpQuiet_take (by rfl) (fun K hK => ⟨.int .i64 (p : Int), fun w2' hw2 => ?_, hK _ ?_⟩)
        · clear hw2; go_simp
        clear hK K
        simp only [Act.put, List.setIfInBounds_toArray, List.set_cons_succ, List.set_cons_zero]
        refine wpQuiet_take (by rfl) (fun K hK => ⟨.int .i64 (s : Int), fun w2' hw2 => ?_, hK _ ?_⟩)
        · clear hw2; go_simp
        clear hK K
        simp only [Act.put, List.setIfInBounds_toArray, List.set_cons_succ, List.set_cons_zero]
        refine wpQuiet_take (by rfl) (fun K hK => ⟨.int .i64 ((p : Int) + (s : Int)), fun w2' hw2 => ?_, hK _ ?_⟩)
        · clear hw2; go_simp
        clear hK K
        simp only [Act.put, List.setIfInBounds_toArray, List.set_cons_succ, List.set_cons_zero]
        refine wpQuiet_take (by rfl) (fun K hK => ⟨.string SBD, fun w2' hw2 => ?_, hK _ ?_⟩)
        · have hc := F98.out
          clear hw2
          go_simp
        clear hK K
        simp only [Act.put, List.setIfInBounds_toArray, List.set_cons_succ, List.set_cons_zero]
        refine wpQuiet_take (by rfl) (fun K hK => ⟨.tuple #[.string ⟨#[]⟩, .int .i64 4], fun w2' hw2 => ?_, hK _ ?_⟩)
        · go_simp
          go_at_call 34
          refine (OB.out w2').mono ?_
          rintro e w5 ⟨rfl, hb5⟩
          exact ⟨rfl, hw2.trans (hb5.mono hw2.size)⟩
        clear hK K
        simp only [Act.put, List.setIfInBounds_toArray, List.set_cons_succ, List.set_cons_zero]
        refine wpQuiet_take (by rfl) (fun K hK => ⟨.tuple #[.string ⟨#[]⟩, .int .i64 4], fun w2' hw2 => ?_, hK _ ?_⟩)
        · clear hw2; go_simp
        clear hK K
        simp only [Act.put, List.setIfInBounds_toArray, List.set_cons_succ, List.set_cons_zero]
        refine wpQuiet_take (by rfl) (fun K hK => ⟨.string ⟨#[]⟩, fun w2' hw2 => ?_, hK _ ?_⟩)
        · clear hw2; go_simp
        clear hK K
        simp only [Act.put, List.setIfInBounds_toArray, List.set_cons_succ, List.set_cons_zero]
        refine wpQuiet_take (by rfl) (fun K hK => ⟨.int .i64 4, fun w2' hw2 => ?_, hK _ ?_⟩)
        · clear hw2; go_simp
        clear hK K
        simp only [Act.put, List.setIfInBounds_toArray, List.set_cons_succ, List.set_cons_zero]
        refine wpQuiet_take (by rfl) (fun K hK => ⟨.string ⟨#[]⟩, fun w2' hw2 => ?_, hK _ ?_⟩)
        · clear hw2; go_simp
        clear hK K
        simp only [Act.put, List.setIfInBounds_toArray, List.set_cons_succ, List.set_cons_zero]
        refine wpQuiet_take0 ?_
        intro w6 hb6
        have B6 := Lib.hid (B1.out.trans ((b3.out.trans (hb6.mono b3.out.size)).mono B1.out.size))
        clear hb6
        go_wp2_with fail
        try simp only [Exit.inBlock, Exit.then]
        refine bodyPost_ret (results_tmp4 rfl _ _ _) rfl ?_
        exact ⟨rfl, B6.out⟩
      · have OB := Lib.hid (show ∀ w', Calls Tryd.prog 34 #[.string SK, .string SN, .string SHD, .string SBD] w' fun e w2 => e = .returned (.tuple #[.string SCC, .int .i64 0]) ∧ Below w'.heap.size w' w2 from OO.out)
        clear OO
        refine region_class1 17 (fun w' => Below w3.heap.size w3 w') mixedOrders (by kernel_rfl) (Below.refl _ _).drew rfl ?_
        refine wpQuiet_take (by rfl) (fun K hK => ⟨.pointer (some ⟨w.heap.size, 0, none⟩), fun w2' hw2 => ?_, hK _ ?_⟩)
        · clear hw2; go_simp
        clear hK K
        simp only [Act.put, List.setIfInBounds_toArray, List.set_cons_succ, List.set_cons_zero]
        refine wpQuiet_take (by rfl) (fun K hK => ⟨.string SK, fun w2' hw2 => ?_, hK _ ?_⟩)
        · have hc := (K1.out w2' (b3.out.trans (hw2.mono b3.out.size))).1
          clear hw2
          go_simp
        clear hK K
        simp only [Act.put, List.setIfInBounds_toArray, List.set_cons_succ, List.set_cons_zero]
        refine wpQuiet_take (by rfl) (fun K hK => ⟨.pointer (some ⟨w.heap.size, 1, none⟩), fun w2' hw2 => ?_, hK _ ?_⟩)
        · clear hw2; go_simp
        clear hK K
        simp only [Act.put, List.setIfInBounds_toArray, List.set_cons_succ, List.set_cons_zero]
        refine wpQuiet_take (by rfl) (fun K hK => ⟨.string SI, fun w2' hw2 => ?_, hK _ ?_⟩)
        · have hc := (K1.out w2' (b3.out.trans (hw2.mono b3.out.size))).2.1
          clear hw2
          go_simp
        clear hK K
        simp only [Act.put, List.setIfInBounds_toArray, List.set_cons_succ, List.set_cons_zero]
        refine wpQuiet_take (by rfl) (fun K hK => ⟨.int .i64 NN, fun w2' hw2 => ?_, hK _ ?_⟩)
        · clear hw2; go_simp
        clear hK K
        simp only [Act.put, List.setIfInBounds_toArray, List.set_cons_succ, List.set_cons_zero]
        refine wpQuiet_take (by rfl) (fun K hK => ⟨.string SN, fun w2' hw2 => ?_, hK _ ?_⟩)
        · go_simp
          go_at_call 23
          refine (NO.out w2').mono ?_
          rintro e w5 ⟨rfl, hb5⟩
          exact ⟨rfl, hw2.trans (hb5.mono hw2.size)⟩
        clear hK K
        simp only [Act.put, List.setIfInBounds_toArray, List.set_cons_succ, List.set_cons_zero]
        refine wpQuiet_take (by rfl) (fun K hK => ⟨.string SHD, fun w2' hw2 => ?_, hK _ ?_⟩)
        · clear hw2; go_simp
        clear hK K
        simp only [Act.put, List.setIfInBounds_toArray, List.set_cons_succ, List.set_cons_zero]
        refine wpQuiet_take (by rfl) (fun K hK => ⟨.string SBR, fun w2' hw2 => ?_, hK _ ?_⟩)
        · clear hw2; go_simp
        clear hK K
        simp only [Act.put, List.setIfInBounds_toArray, List.set_cons_succ, List.set_cons_zero]
        refine wpQuiet_take (by rfl) (fun K hK => ⟨.int .i64 (p : Int), fun w2' hw2 => ?_, hK _ ?_⟩)
        · clear hw2; go_simp
        clear hK K
        simp only [Act.put, List.setIfInBounds_toArray, List.set_cons_succ, List.set_cons_zero]
        refine wpQuiet_take (by rfl) (fun K hK => ⟨.int .i64 (s : Int), fun w2' hw2 => ?_, hK _ ?_⟩)
        · clear hw2; go_simp
        clear hK K
        simp only [Act.put, List.setIfInBounds_toArray, List.set_cons_succ, List.set_cons_zero]
        refine wpQuiet_take (by rfl) (fun K hK => ⟨.int .i64 ((p : Int) + (s : Int)), fun w2' hw2 => ?_, hK _ ?_⟩)
        · clear hw2; go_simp
        clear hK K
        simp only [Act.put, List.setIfInBounds_toArray, List.set_cons_succ, List.set_cons_zero]
        refine wpQuiet_take (by rfl) (fun K hK => ⟨.string SBD, fun w2' hw2 => ?_, hK _ ?_⟩)
        · have hc := F98.out
          clear hw2
          go_simp
        clear hK K
        simp only [Act.put, List.setIfInBounds_toArray, List.set_cons_succ, List.set_cons_zero]
        refine wpQuiet_take (by rfl) (fun K hK => ⟨.tuple #[.string SCC, .int .i64 0], fun w2' hw2 => ?_, hK _ ?_⟩)
        · go_simp
          go_at_call 34
          refine (OB.out w2').mono ?_
          rintro e w5 ⟨rfl, hb5⟩
          exact ⟨rfl, hw2.trans (hb5.mono hw2.size)⟩
        clear hK K
        simp only [Act.put, List.setIfInBounds_toArray, List.set_cons_succ, List.set_cons_zero]
        refine wpQuiet_take (by rfl) (fun K hK => ⟨.tuple #[.string SCC, .int .i64 0], fun w2' hw2 => ?_, hK _ ?_⟩)
        · clear hw2; go_simp
        clear hK K
        simp only [Act.put, List.setIfInBounds_toArray, List.set_cons_succ, List.set_cons_zero]
        refine wpQuiet_take (by rfl) (fun K hK => ⟨.string SCC, fun w2' hw2 => ?_, hK _ ?_⟩)
        · clear hw2; go_simp
        clear hK K
        simp only [Act.put, List.setIfInBounds_toArray, List.set_cons_succ, List.set_cons_zero]
        refine wpQuiet_take (by rfl) (fun K hK => ⟨.int .i64 0, fun w2' hw2 => ?_, hK _ ?_⟩)
        · clear hw2; go_simp
        clear hK K
        simp only [Act.put, List.setIfInBounds_toArray, List.set_cons_succ, List.set_cons_zero]
        refine wpQuiet_take (by rfl) (fun K hK => ⟨.string SCC, fun w2' hw2 => ?_, hK _ ?_⟩)
        · clear hw2; go_simp
        clear hK K
        simp only [Act.put, List.setIfInBounds_toArray, List.set_cons_succ, List.set_cons_zero]
        refine wpQuiet_take0 ?_
        intro w6 hb6
        have B6 := Lib.hid (B1.out.trans ((b3.out.trans (hb6.mono b3.out.size)).mono B1.out.size))
        clear hb6
        go_wp2_with fail
        try simp only [Exit.inBlock, Exit.then]
        refine bodyPost_ret (results_tmp4 rfl _ _ _) rfl ?_
        exact ⟨rfl, B6.out⟩
end Go.Proofs.YtjbpjoondmcnlabDoor
