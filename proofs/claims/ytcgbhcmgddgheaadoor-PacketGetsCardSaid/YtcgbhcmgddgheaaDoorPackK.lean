/-
  THE DOCUMENT'S ANSWER FOR packet: Put.
-/
import Derived.Test.YtcgbhcmgddgheaaDoorPackI
import Derived.Test.YtcgbhcmgddgheaaDoorPackJ
namespace Go.Proofs.YtcgbhcmgddgheaaDoor
open Go Go.RowKit Go.BigFrame
set_option linter.unusedSimpArgs false
set_option linter.unusedVariables false
set_option maxRecDepth 100000
set_option maxHeartbeats 4000000 in
theorem docText_any (tf : Nat → BitVec 8) (nt : Nat) (w : World) (hn : nt ≤ 512) :
    Calls Tryd.prog 57 #[.string (strOf tf nt)] w fun e w' => e = .returned (.tuple #[.string (strOf (textB nt tf) (textK nt + nt)), .int .i64 0]) ∧ Below w.heap.size w w' := by
  have nl : n64 (BitVec.ofNat 64 nt) = (nt : Int) := by rw [n64_nat, BitVec.toNat_ofNat]; omega
  have PT := Lib.hid (fun w' => (show Calls Tryd.prog 14 #[.int .u64 (nt : Int)] w' fun e w'' => e = .returned (.tuple #[.string (strOf (vbyte (BitVec.ofNat 64 nt) (least (BitVec.ofNat 64 nt))) (2 ^ least (BitVec.ofNat 64 nt))), .int .i64 0]) ∧ Below w'.heap.size w' w'' from by
    have h := refPut_ok (BitVec.ofNat 64 nt) (by rw [BitVec.toNat_ofNat]; omega) w'
    rw [nl] at h
    exact h))
  have J : strOf (vbyte (BitVec.ofNat 64 nt) (least (BitVec.ofNat 64 nt))) (2 ^ least (BitVec.ofNat 64 nt)) ++ strOf tf nt = strOf (textB nt tf) (textK nt + nt) := joined _ _ _ _
  have z1 := strOf_size (vbyte (BitVec.ofNat 64 nt) (least (BitVec.ofNat 64 nt))) (2 ^ least (BitVec.ofNat 64 nt))
  have z2 := strOf_size tf nt
  have hk : 2 ^ least (BitVec.ofNat 64 nt) ≤ 8 := (textK_pos nt).2
  generalize 2 ^ least (BitVec.ofNat 64 nt) = K at *
  generalize strOf (vbyte (BitVec.ofNat 64 nt) (least (BitVec.ofNat 64 nt))) K = A1 at *
  generalize strOf (textB nt tf) (textK nt + nt) = O1 at *
  generalize strOf tf nt = T at *
  have q1 : ¬ 9223372036854775807 < K + nt := by omega
  have hI : ¬ (65535 : Int) < (nt : Int) := by omega
  clear nl
  go_enter Tryd.func57, Tryd.ntmps57
  go_wp2_with fail
  with_reducible refine (PT.out _).mono ?_
  rintro e w1 ⟨rfl, hb1⟩
  have H1 := Lib.hid hb1
  clear hb1
  go_wp2_with fail
  go_ret2
  exact ⟨rfl, H1.out⟩
set_option maxHeartbeats 16000000 in
theorem docPut_4 (v l N : Int) (z : Nat) (D S : ByteArray) (tf : Nat → BitVec 8) (nt : Nat) (ph : Bool) (a : Option Addr) (c : Nat) (G : List Int) (w : World) (hL : IntsIn w (.slice a G.length c) G) (hin : inB G D.size S.size nt v l N (z : Int)) (hf : inF 4 v l N (z : Int) S.size nt G.length ph) :
    Calls Tryd.prog 32 #[.agg (hdC 4 v D S (strOf tf nt) l N (z : Int) ph (.slice a G.length c))] w fun e w' => e = .returned (.tuple #[.string (hputS 4 v D S tf nt l N z ph G), .int .i64 0]) ∧ Below w.heap.size w w' := by
  obtain ⟨n, hn⟩ : ∃ n, G.length = n := ⟨_, rfl⟩
  have hTs : (strOf tf nt).size = nt := strOf_size tf nt
  rw [hn] at hL hf ⊢
  have RT := Lib.hid (fun (w' : World) (h : IntsIn w' (.slice a n c) G) => right_any 4 v l N (z : Int) D S (strOf tf nt) D.size S.size nt rfl rfl hTs ph a c n G w' hn h)
  rw [decide_eq_true (show rightP 4 v l N (z : Int) D.size S.size nt n ph G from ⟨hin, hf⟩)] at RT
  obtain ⟨_, hG16, hd, hs, hnt, hv, hl, hN, hz⟩ := hin
  have hzk : (4 : Int) = 3 ∨ (4 : Int) = 5 ∨ ((1 : Int) ≤ (z : Int) ∧ (z : Int) ≤ 4) := by
    unfold inF at hf
    omega
  obtain ⟨nd, hD⟩ : ∃ nd, D.size = nd := ⟨_, rfl⟩
  obtain ⟨ns, hS⟩ : ∃ ns, S.size = ns := ⟨_, rfl⟩
  rw [hD] at hd
  rw [hS] at hs
  have NM := Lib.hid (fun (w' : World) => names_any 4 v l N (z : Int) D S (strOf tf nt) nd ns hD hS hd hs ph (.slice a n c) w')
  have HL := Lib.hid hL
  have LV := Lib.hid (fun w' => (show Calls Tryd.prog 55 #[.int .i64 v, .int .i64 4] w' fun e w'' => e = .returned (.string (lowS v 4)) ∧ Below w'.heap.size w' w'' from low_any v 4 w' (by omega)))
  have LN := Lib.hid (fun w' => low_any N z w' (by omega))
  have zv := lowS_size v 4
  have zN := lowS_size N z
  obtain ⟨hz1, hz4⟩ : (1 : Int) ≤ (z : Int) ∧ (z : Int) ≤ 4 := by omega
  clear hzk hz
  cases ph with
  | false =>
    obtain ⟨A1, hA1⟩ : ∃ A, lowS (63 + (z : Int)) 1 = A := ⟨_, rfl⟩
    have LF := Lib.hid (fun w' => (show Calls Tryd.prog 55 #[.int .i64 (63 + (z : Int)), .int .i64 1] w' fun e w'' => e = .returned (.string A1) ∧ Below w'.heap.size w' w'' from by rw [← hA1]; exact low_any (63 + (z : Int)) 1 w' (by omega)))
    have zA : A1.size = 1 := by rw [← hA1]; exact lowS_size _ _
    have PE : hputS 4 v D S tf nt l N z false G = A1 ++ D ++ lowS N z := by unfold hputS; rw [if_pos rfl, ← hA1]; rfl
    obtain ⟨P1, h1⟩ : ∃ P, A1 ++ D = P := ⟨_, rfl⟩
    obtain ⟨A2, hA2⟩ : ∃ A, lowS N z = A := ⟨_, rfl⟩
    obtain ⟨P2, h2⟩ : ∃ P, P1 ++ A2 = P := ⟨_, rfl⟩
    have y1 : P1.size = 1 + nd := by rw [← h1, ByteArray.size_append, zA, hD]
    rw [hA2] at LN zN
    rw [PE, h1, hA2, h2]
    obtain ⟨T, hT⟩ : ∃ T, strOf tf nt = T := ⟨_, rfl⟩
    rw [hT] at RT NM ⊢
    have q1 : ¬ 9223372036854775807 < 1 + nd := by omega
    have q2 : ¬ 9223372036854775807 < 1 + nd + z := by omega
    have eF : (64 : Int) + (z : Int) - 1 = 63 + (z : Int) := by omega
    have eF4 : (63 : Int) + (z : Int) + 4 = 67 + (z : Int) := by omega
    clear PE hA1 hA2 hT
    clear hf hL hv hl hN
    unfold hdC at RT NM ⊢
    go_enter Tryd.func32, Tryd.ntmps32
    have row := heap_alloc_last w (.cells #[.int .i64 4, .int .i64 v, .string D, .string S, .string T, .int .i64 l, .int .i64 N, .int .i64 (z : Int), .bool false, .slice a n c] 63)
    have bel := (Below.refl w.heap.size w).alloc (Nat.le_refl _) (.cells #[.int .i64 4, .int .i64 v, .string D, .string S, .string T, .int .i64 l, .int .i64 N, .int .i64 (z : Int), .bool false, .slice a n c] 63)
    go_upto_region 1 with (fail)
    generalize w.alloc _ = wa at *
    have ROW := Lib.hid row
    have BEL := Lib.hid bel
    have CX := Lib.hid (fun (w' : World) (hb : Below wa.heap.size wa w') => cells10 ((hb.block _ (lt_row ROW.out)).trans ROW.out))
    have hlt := lt_row row
    generalize hq : w.heap.size = q at *
    have HQ := Lib.hid hq
    clear row bel hq
    obtain ⟨c0, c1, c2, c3, c4, c5, c6, c7, c8, c9⟩ := CX.out wa (Below.refl _ _)
    go_wp2_with fail
    with_reducible refine (RT.out wa (HL.out.later (by rw [HQ.out]; exact BEL.out))).mono ?_
    rintro e w1 ⟨rfl, hb1⟩
    have H1 := Lib.hid hb1
    clear hb1 c0 c1 c2 c3 c4 c5 c6 c7 c8 c9 RT
    obtain ⟨c0, c1, c2, c3, c4, c5, c6, c7, c8, c9⟩ := CX.out w1 H1.out
    have EX := Lib.hid (fun (w' : World) (hb : Below w1.heap.size w1 w') => (show Below wa.heap.size wa w' from H1.out.trans (hb.mono H1.out.size)))
    have RES := Lib.hid (fun (w' : World) (hb : Below wa.heap.size wa w') => (show Below w.heap.size w w' by rw [HQ.out]; exact BEL.out.trans (hb.mono (Nat.le_of_lt hlt))))
    go_upto_region 10 with (fail)
    refine region_class 11 (fun w' => Below w1.heap.size w1 w') mixedOrders (by kernel_rfl) (Below.refl _ _).drew ?_
    refine wpQuiet_take (by rfl) (fun K hK => ⟨.int .i64 (63 + (z : Int)), fun w2' hw2 => ?_, hK _ ?_⟩)
    · clear hw2; go_simp
    clear hK K
    simp only [Act.put, List.setIfInBounds_toArray, List.set_cons_succ, List.set_cons_zero]
    refine wpQuiet_take (by rfl) (fun K hK => ⟨.string A1, fun w2' hw2 => ?_, hK _ ?_⟩)
    · go_simp
      go_at_call 55
      with_reducible refine (LF.out w2').mono ?_
      rintro e w5 ⟨rfl, hb5⟩
      exact ⟨rfl, hw2.trans (hb5.mono hw2.size)⟩
    clear hK K
    simp only [Act.put, List.setIfInBounds_toArray, List.set_cons_succ, List.set_cons_zero]
    refine wpQuiet_take (by rfl) (fun K hK => ⟨.pointer (some ⟨q, 2, none⟩), fun w2' hw2 => ?_, hK _ ?_⟩)
    · clear hw2; go_simp
    clear hK K
    simp only [Act.put, List.setIfInBounds_toArray, List.set_cons_succ, List.set_cons_zero]
    refine wpQuiet_take (by rfl) (fun K hK => ⟨.string D, fun w2' hw2 => ?_, hK _ ?_⟩)
    · obtain ⟨_, _, c, _, _, _, _, _, _, _⟩ := CX.out w2' (EX.out w2' hw2)
      clear hw2; go_simp
    clear hK K
    simp only [Act.put, List.setIfInBounds_toArray, List.set_cons_succ, List.set_cons_zero]
    refine wpQuiet_take (by rfl) (fun K hK => ⟨.string P1, fun w2' hw2 => ?_, hK _ ?_⟩)
    · clear hw2; go_simp
    clear hK K
    simp only [Act.put, List.setIfInBounds_toArray, List.set_cons_succ, List.set_cons_zero]
    refine wpQuiet_take (by rfl) (fun K hK => ⟨.pointer (some ⟨q, 6, none⟩), fun w2' hw2 => ?_, hK _ ?_⟩)
    · clear hw2; go_simp
    clear hK K
    simp only [Act.put, List.setIfInBounds_toArray, List.set_cons_succ, List.set_cons_zero]
    refine wpQuiet_take (by rfl) (fun K hK => ⟨.int .i64 N, fun w2' hw2 => ?_, hK _ ?_⟩)
    · obtain ⟨_, _, _, _, _, _, c, _, _, _⟩ := CX.out w2' (EX.out w2' hw2)
      clear hw2; go_simp
    clear hK K
    simp only [Act.put, List.setIfInBounds_toArray, List.set_cons_succ, List.set_cons_zero]
    refine wpQuiet_take (by rfl) (fun K hK => ⟨.pointer (some ⟨q, 7, none⟩), fun w2' hw2 => ?_, hK _ ?_⟩)
    · clear hw2; go_simp
    clear hK K
    simp only [Act.put, List.setIfInBounds_toArray, List.set_cons_succ, List.set_cons_zero]
    refine wpQuiet_take (by rfl) (fun K hK => ⟨.int .i64 (z : Int), fun w2' hw2 => ?_, hK _ ?_⟩)
    · obtain ⟨_, _, _, _, _, _, _, c, _, _⟩ := CX.out w2' (EX.out w2' hw2)
      clear hw2; go_simp
    clear hK K
    simp only [Act.put, List.setIfInBounds_toArray, List.set_cons_succ, List.set_cons_zero]
    refine wpQuiet_take (by rfl) (fun K hK => ⟨.string A2, fun w2' hw2 => ?_, hK _ ?_⟩)
    · go_simp
      go_at_call 55
      with_reducible refine (LN.out w2').mono ?_
      rintro e w5 ⟨rfl, hb5⟩
      exact ⟨rfl, hw2.trans (hb5.mono hw2.size)⟩
    clear hK K
    simp only [Act.put, List.setIfInBounds_toArray, List.set_cons_succ, List.set_cons_zero]
    refine wpQuiet_take (by rfl) (fun K hK => ⟨.string P2, fun w2' hw2 => ?_, hK _ ?_⟩)
    · clear hw2; go_simp
    clear hK K
    simp only [Act.put, List.setIfInBounds_toArray, List.set_cons_succ, List.set_cons_zero]
    refine wpQuiet_take0 ?_
    intro w6 hb6
    have H6 := Lib.hid (EX.out w6 hb6)
    clear hb6
    go_wp2_with fail
    go_ret2
    exact ⟨rfl, RES.out w6 H6.out⟩
  | true =>
    obtain ⟨A1, hA1⟩ : ∃ A, lowS (67 + (z : Int)) 1 = A := ⟨_, rfl⟩
    have LF := Lib.hid (fun w' => (show Calls Tryd.prog 55 #[.int .i64 (67 + (z : Int)), .int .i64 1] w' fun e w'' => e = .returned (.string A1) ∧ Below w'.heap.size w' w'' from by rw [← hA1]; exact low_any (67 + (z : Int)) 1 w' (by omega)))
    have zA : A1.size = 1 := by rw [← hA1]; exact lowS_size _ _
    have PE : hputS 4 v D S tf nt l N z true G = A1 ++ D ++ lowS N z := by unfold hputS; rw [if_pos rfl, ← hA1]; rfl
    obtain ⟨P1, h1⟩ : ∃ P, A1 ++ D = P := ⟨_, rfl⟩
    obtain ⟨A2, hA2⟩ : ∃ A, lowS N z = A := ⟨_, rfl⟩
    obtain ⟨P2, h2⟩ : ∃ P, P1 ++ A2 = P := ⟨_, rfl⟩
    have y1 : P1.size = 1 + nd := by rw [← h1, ByteArray.size_append, zA, hD]
    rw [hA2] at LN zN
    rw [PE, h1, hA2, h2]
    obtain ⟨T, hT⟩ : ∃ T, strOf tf nt = T := ⟨_, rfl⟩
    rw [hT] at RT NM ⊢
    have q1 : ¬ 9223372036854775807 < 1 + nd := by omega
    have q2 : ¬ 9223372036854775807 < 1 + nd + z := by omega
    have eF : (64 : Int) + (z : Int) - 1 = 63 + (z : Int) := by omega
    have eF4 : (63 : Int) + (z : Int) + 4 = 67 + (z : Int) := by omega
    clear PE hA1 hA2 hT
    clear hf hL hv hl hN
    unfold hdC at RT NM ⊢
    go_enter Tryd.func32, Tryd.ntmps32
    have row := heap_alloc_last w (.cells #[.int .i64 4, .int .i64 v, .string D, .string S, .string T, .int .i64 l, .int .i64 N, .int .i64 (z : Int), .bool true, .slice a n c] 63)
    have bel := (Below.refl w.heap.size w).alloc (Nat.le_refl _) (.cells #[.int .i64 4, .int .i64 v, .string D, .string S, .string T, .int .i64 l, .int .i64 N, .int .i64 (z : Int), .bool true, .slice a n c] 63)
    go_upto_region 1 with (fail)
    generalize w.alloc _ = wa at *
    have ROW := Lib.hid row
    have BEL := Lib.hid bel
    have CX := Lib.hid (fun (w' : World) (hb : Below wa.heap.size wa w') => cells10 ((hb.block _ (lt_row ROW.out)).trans ROW.out))
    have hlt := lt_row row
    generalize hq : w.heap.size = q at *
    have HQ := Lib.hid hq
    clear row bel hq
    obtain ⟨c0, c1, c2, c3, c4, c5, c6, c7, c8, c9⟩ := CX.out wa (Below.refl _ _)
    go_wp2_with fail
    with_reducible refine (RT.out wa (HL.out.later (by rw [HQ.out]; exact BEL.out))).mono ?_
    rintro e w1 ⟨rfl, hb1⟩
    have H1 := Lib.hid hb1
    clear hb1 c0 c1 c2 c3 c4 c5 c6 c7 c8 c9 RT
    obtain ⟨c0, c1, c2, c3, c4, c5, c6, c7, c8, c9⟩ := CX.out w1 H1.out
    have EX := Lib.hid (fun (w' : World) (hb : Below w1.heap.size w1 w') => (show Below wa.heap.size wa w' from H1.out.trans (hb.mono H1.out.size)))
    have RES := Lib.hid (fun (w' : World) (hb : Below wa.heap.size wa w') => (show Below w.heap.size w w' by rw [HQ.out]; exact BEL.out.trans (hb.mono (Nat.le_of_lt hlt))))
    go_upto_region 10 with (fail)
    refine region_class 11 (fun w' => Below w1.heap.size w1 w') mixedOrders (by kernel_rfl) (Below.refl _ _).drew ?_
    refine wpQuiet_take (by rfl) (fun K hK => ⟨.int .i64 (67 + (z : Int)), fun w2' hw2 => ?_, hK _ ?_⟩)
    · clear hw2; go_simp
    clear hK K
    simp only [Act.put, List.setIfInBounds_toArray, List.set_cons_succ, List.set_cons_zero]
    refine wpQuiet_take (by rfl) (fun K hK => ⟨.string A1, fun w2' hw2 => ?_, hK _ ?_⟩)
    · go_simp
      go_at_call 55
      with_reducible refine (LF.out w2').mono ?_
      rintro e w5 ⟨rfl, hb5⟩
      exact ⟨rfl, hw2.trans (hb5.mono hw2.size)⟩
    clear hK K
    simp only [Act.put, List.setIfInBounds_toArray, List.set_cons_succ, List.set_cons_zero]
    refine wpQuiet_take (by rfl) (fun K hK => ⟨.pointer (some ⟨q, 2, none⟩), fun w2' hw2 => ?_, hK _ ?_⟩)
    · clear hw2; go_simp
    clear hK K
    simp only [Act.put, List.setIfInBounds_toArray, List.set_cons_succ, List.set_cons_zero]
    refine wpQuiet_take (by rfl) (fun K hK => ⟨.string D, fun w2' hw2 => ?_, hK _ ?_⟩)
    · obtain ⟨_, _, c, _, _, _, _, _, _, _⟩ := CX.out w2' (EX.out w2' hw2)
      clear hw2; go_simp
    clear hK K
    simp only [Act.put, List.setIfInBounds_toArray, List.set_cons_succ, List.set_cons_zero]
    refine wpQuiet_take (by rfl) (fun K hK => ⟨.string P1, fun w2' hw2 => ?_, hK _ ?_⟩)
    · clear hw2; go_simp
    clear hK K
    simp only [Act.put, List.setIfInBounds_toArray, List.set_cons_succ, List.set_cons_zero]
    refine wpQuiet_take (by rfl) (fun K hK => ⟨.pointer (some ⟨q, 6, none⟩), fun w2' hw2 => ?_, hK _ ?_⟩)
    · clear hw2; go_simp
    clear hK K
    simp only [Act.put, List.setIfInBounds_toArray, List.set_cons_succ, List.set_cons_zero]
    refine wpQuiet_take (by rfl) (fun K hK => ⟨.int .i64 N, fun w2' hw2 => ?_, hK _ ?_⟩)
    · obtain ⟨_, _, _, _, _, _, c, _, _, _⟩ := CX.out w2' (EX.out w2' hw2)
      clear hw2; go_simp
    clear hK K
    simp only [Act.put, List.setIfInBounds_toArray, List.set_cons_succ, List.set_cons_zero]
    refine wpQuiet_take (by rfl) (fun K hK => ⟨.pointer (some ⟨q, 7, none⟩), fun w2' hw2 => ?_, hK _ ?_⟩)
    · clear hw2; go_simp
    clear hK K
    simp only [Act.put, List.setIfInBounds_toArray, List.set_cons_succ, List.set_cons_zero]
    refine wpQuiet_take (by rfl) (fun K hK => ⟨.int .i64 (z : Int), fun w2' hw2 => ?_, hK _ ?_⟩)
    · obtain ⟨_, _, _, _, _, _, _, c, _, _⟩ := CX.out w2' (EX.out w2' hw2)
      clear hw2; go_simp
    clear hK K
    simp only [Act.put, List.setIfInBounds_toArray, List.set_cons_succ, List.set_cons_zero]
    refine wpQuiet_take (by rfl) (fun K hK => ⟨.string A2, fun w2' hw2 => ?_, hK _ ?_⟩)
    · go_simp
      go_at_call 55
      with_reducible refine (LN.out w2').mono ?_
      rintro e w5 ⟨rfl, hb5⟩
      exact ⟨rfl, hw2.trans (hb5.mono hw2.size)⟩
    clear hK K
    simp only [Act.put, List.setIfInBounds_toArray, List.set_cons_succ, List.set_cons_zero]
    refine wpQuiet_take (by rfl) (fun K hK => ⟨.string P2, fun w2' hw2 => ?_, hK _ ?_⟩)
    · clear hw2; go_simp
    clear hK K
    simp only [Act.put, List.setIfInBounds_toArray, List.set_cons_succ, List.set_cons_zero]
    refine wpQuiet_take0 ?_
    intro w6 hb6
    have H6 := Lib.hid (EX.out w6 hb6)
    clear hb6
    go_wp2_with fail
    go_ret2
    exact ⟨rfl, RES.out w6 H6.out⟩
set_option maxHeartbeats 16000000 in
theorem docPut_3 (v l N : Int) (z : Nat) (D S : ByteArray) (tf : Nat → BitVec 8) (nt : Nat) (ph : Bool) (a : Option Addr) (c : Nat) (G : List Int) (w : World) (hL : IntsIn w (.slice a G.length c) G) (hin : inB G D.size S.size nt v l N (z : Int)) (hf : inF 3 v l N (z : Int) S.size nt G.length ph) :
    Calls Tryd.prog 32 #[.agg (hdC 3 v D S (strOf tf nt) l N (z : Int) ph (.slice a G.length c))] w fun e w' => e = .returned (.tuple #[.string (hputS 3 v D S tf nt l N z ph G), .int .i64 0]) ∧ Below w.heap.size w w' := by
  obtain ⟨n, hn⟩ : ∃ n, G.length = n := ⟨_, rfl⟩
  have hTs : (strOf tf nt).size = nt := strOf_size tf nt
  rw [hn] at hL hf ⊢
  have RT := Lib.hid (fun (w' : World) (h : IntsIn w' (.slice a n c) G) => right_any 3 v l N (z : Int) D S (strOf tf nt) D.size S.size nt rfl rfl hTs ph a c n G w' hn h)
  rw [decide_eq_true (show rightP 3 v l N (z : Int) D.size S.size nt n ph G from ⟨hin, hf⟩)] at RT
  obtain ⟨_, hG16, hd, hs, hnt, hv, hl, hN, hz⟩ := hin
  have hzk : (3 : Int) = 3 ∨ (3 : Int) = 5 ∨ ((1 : Int) ≤ (z : Int) ∧ (z : Int) ≤ 4) := by
    unfold inF at hf
    omega
  obtain ⟨nd, hD⟩ : ∃ nd, D.size = nd := ⟨_, rfl⟩
  obtain ⟨ns, hS⟩ : ∃ ns, S.size = ns := ⟨_, rfl⟩
  rw [hD] at hd
  rw [hS] at hs
  have NM := Lib.hid (fun (w' : World) => names_any 3 v l N (z : Int) D S (strOf tf nt) nd ns hD hS hd hs ph (.slice a n c) w')
  have HL := Lib.hid hL
  have LV := Lib.hid (fun w' => (show Calls Tryd.prog 55 #[.int .i64 v, .int .i64 4] w' fun e w'' => e = .returned (.string (lowS v 4)) ∧ Below w'.heap.size w' w'' from low_any v 4 w' (by omega)))
  have LN := Lib.hid (fun w' => low_any N z w' (by omega))
  have zv := lowS_size v 4
  have zN := lowS_size N z
  obtain ⟨A1, hA1⟩ : ∃ A, (⟨#[240]⟩ : ByteArray) = A := ⟨_, rfl⟩
  have zA : A1.size = 1 := by rw [← hA1]; rfl
  obtain ⟨AV, hAV⟩ : ∃ A, lowS v 4 = A := ⟨_, rfl⟩
  obtain ⟨NT, hNT⟩ : ∃ A, lowS (nd : Int) 1 ++ D ++ lowS (ns : Int) 1 ++ S = A := ⟨_, rfl⟩
  have zNT : NT.size = 1 + nd + 1 + ns := by rw [← hNT]; simp only [ByteArray.size_append, lowS_size, hD, hS]
  obtain ⟨P1, h1⟩ : ∃ P, A1 ++ AV = P := ⟨_, rfl⟩
  obtain ⟨P2, h2⟩ : ∃ P, P1 ++ NT = P := ⟨_, rfl⟩
  have PP : preS 3 v z ph D S = P2 := by
    rw [← h2, ← h1, ← hNT, ← hAV, ← hA1]
    unfold preS
    rw [hD, hS]
    simp only [ByteArray.append_assoc]
    rfl
  rw [hAV] at LV zv
  rw [hNT] at NM
  have y1 : P1.size = 5 := by rw [← h1, ByteArray.size_append, zA, zv]
  have y2 : P2.size = 5 + (1 + nd + 1 + ns) := by rw [← h2, ByteArray.size_append, y1, zNT]
  have q1 : ¬ 9223372036854775807 < 1 + 4 := by omega
  have q2 : ¬ 9223372036854775807 < 5 + (1 + nd + 1 + ns) := by omega
  have PE : hputS 3 v D S tf nt l N z ph G = P2 ++ strOf tf nt := by unfold hputS; simp [PP]
  rw [PE]
  obtain ⟨T, hT⟩ : ∃ T, strOf tf nt = T := ⟨_, rfl⟩
  rw [hT] at hTs RT NM ⊢
  obtain ⟨P3, h3⟩ : ∃ P, P2 ++ T = P := ⟨_, rfl⟩
  rw [h3]
  have q3 : ¬ 9223372036854775807 < 5 + (1 + nd + 1 + ns) + nt := by omega
  rw [← hA1] at h1
  clear PE hA1 hAV hNT hT PP hzk
  clear hf hL hv hl hN
  unfold hdC at RT NM ⊢
  go_enter Tryd.func32, Tryd.ntmps32
  have row := heap_alloc_last w (.cells #[.int .i64 3, .int .i64 v, .string D, .string S, .string T, .int .i64 l, .int .i64 N, .int .i64 (z : Int), .bool ph, .slice a n c] 63)
  have bel := (Below.refl w.heap.size w).alloc (Nat.le_refl _) (.cells #[.int .i64 3, .int .i64 v, .string D, .string S, .string T, .int .i64 l, .int .i64 N, .int .i64 (z : Int), .bool ph, .slice a n c] 63)
  go_upto_region 1 with (fail)
  generalize w.alloc _ = wa at *
  have ROW := Lib.hid row
  have BEL := Lib.hid bel
  have CX := Lib.hid (fun (w' : World) (hb : Below wa.heap.size wa w') => cells10 ((hb.block _ (lt_row ROW.out)).trans ROW.out))
  have hlt := lt_row row
  generalize hq : w.heap.size = q at *
  have HQ := Lib.hid hq
  clear row bel hq
  obtain ⟨c0, c1, c2, c3, c4, c5, c6, c7, c8, c9⟩ := CX.out wa (Below.refl _ _)
  go_wp2_with fail
  with_reducible refine (RT.out wa (HL.out.later (by rw [HQ.out]; exact BEL.out))).mono ?_
  rintro e w1 ⟨rfl, hb1⟩
  have H1 := Lib.hid hb1
  clear hb1 c0 c1 c2 c3 c4 c5 c6 c7 c8 c9 RT
  obtain ⟨c0, c1, c2, c3, c4, c5, c6, c7, c8, c9⟩ := CX.out w1 H1.out
  have EX := Lib.hid (fun (w' : World) (hb : Below w1.heap.size w1 w') => (show Below wa.heap.size wa w' from H1.out.trans (hb.mono H1.out.size)))
  have RES := Lib.hid (fun (w' : World) (hb : Below wa.heap.size wa w') => (show Below w.heap.size w w' by rw [HQ.out]; exact BEL.out.trans (hb.mono (Nat.le_of_lt hlt))))
  go_upto_region 5 with (fail)
  refine region_class 10 (fun w' => Below w1.heap.size w1 w') mixedOrders (by kernel_rfl) (Below.refl _ _).drew ?_
  refine wpQuiet_take (by rfl) (fun K hK => ⟨.pointer (some ⟨q, 1, none⟩), fun w2' hw2 => ?_, hK _ ?_⟩)
  · clear hw2; go_simp
  clear hK K
  simp only [Act.put, List.setIfInBounds_toArray, List.set_cons_succ, List.set_cons_zero]
  refine wpQuiet_take (by rfl) (fun K hK => ⟨.int .i64 v, fun w2' hw2 => ?_, hK _ ?_⟩)
  · obtain ⟨_, c, _, _, _, _, _, _, _, _⟩ := CX.out w2' (EX.out w2' hw2)
    clear hw2; go_simp
  clear hK K
  simp only [Act.put, List.setIfInBounds_toArray, List.set_cons_succ, List.set_cons_zero]
  refine wpQuiet_take (by rfl) (fun K hK => ⟨.string AV, fun w2' hw2 => ?_, hK _ ?_⟩)
  · go_simp
    go_at_call 55
    with_reducible refine (LV.out w2').mono ?_
    rintro e w5 ⟨rfl, hb5⟩
    exact ⟨rfl, hw2.trans (hb5.mono hw2.size)⟩
  clear hK K
  simp only [Act.put, List.setIfInBounds_toArray, List.set_cons_succ, List.set_cons_zero]
  refine wpQuiet_take (by rfl) (fun K hK => ⟨.string P1, fun w2' hw2 => ?_, hK _ ?_⟩)
  · have zc : (⟨#[240]⟩ : ByteArray).size = 1 := rfl
    clear hw2; go_simp
  clear hK K
  simp only [Act.put, List.setIfInBounds_toArray, List.set_cons_succ, List.set_cons_zero]
  refine wpQuiet_take (by rfl) (fun K hK => ⟨.agg #[.int .i64 3, .int .i64 v, .string D, .string S, .string T, .int .i64 l, .int .i64 N, .int .i64 (z : Int), .bool ph, .slice a n c], fun w2' hw2 => ?_, hK _ ?_⟩)
  · obtain ⟨c0, c1, c2, c3, c4, c5, c6, c7, c8, c9⟩ := CX.out w2' (EX.out w2' hw2)
    clear hw2; go_simp
  clear hK K
  simp only [Act.put, List.setIfInBounds_toArray, List.set_cons_succ, List.set_cons_zero]
  refine wpQuiet_take (by rfl) (fun K hK => ⟨.string NT, fun w2' hw2 => ?_, hK _ ?_⟩)
  · go_simp
    go_at_call 56
    with_reducible refine (NM.out w2').mono ?_
    rintro e w5 ⟨rfl, hb5⟩
    exact ⟨rfl, hw2.trans (hb5.mono hw2.size)⟩
  clear hK K
  simp only [Act.put, List.setIfInBounds_toArray, List.set_cons_succ, List.set_cons_zero]
  refine wpQuiet_take (by rfl) (fun K hK => ⟨.string P2, fun w2' hw2 => ?_, hK _ ?_⟩)
  · clear hw2; go_simp
  clear hK K
  simp only [Act.put, List.setIfInBounds_toArray, List.set_cons_succ, List.set_cons_zero]
  refine wpQuiet_take (by rfl) (fun K hK => ⟨.pointer (some ⟨q, 4, none⟩), fun w2' hw2 => ?_, hK _ ?_⟩)
  · clear hw2; go_simp
  clear hK K
  simp only [Act.put, List.setIfInBounds_toArray, List.set_cons_succ, List.set_cons_zero]
  refine wpQuiet_take (by rfl) (fun K hK => ⟨.string T, fun w2' hw2 => ?_, hK _ ?_⟩)
  · obtain ⟨_, _, _, _, c, _, _, _, _, _⟩ := CX.out w2' (EX.out w2' hw2)
    clear hw2; go_simp
  clear hK K
  simp only [Act.put, List.setIfInBounds_toArray, List.set_cons_succ, List.set_cons_zero]
  refine wpQuiet_take (by rfl) (fun K hK => ⟨.string P3, fun w2' hw2 => ?_, hK _ ?_⟩)
  · clear hw2; go_simp
  clear hK K
  simp only [Act.put, List.setIfInBounds_toArray, List.set_cons_succ, List.set_cons_zero]
  refine wpQuiet_take0 ?_
  intro w6 hb6
  have H6 := Lib.hid (EX.out w6 hb6)
  clear hb6
  go_wp2_with fail
  go_ret2
  exact ⟨rfl, RES.out w6 H6.out⟩
set_option maxHeartbeats 16000000 in
theorem docPut_1 (v l N : Int) (z : Nat) (D S : ByteArray) (tf : Nat → BitVec 8) (nt : Nat) (ph : Bool) (a : Option Addr) (c : Nat) (G : List Int) (w : World) (hL : IntsIn w (.slice a G.length c) G) (hin : inB G D.size S.size nt v l N (z : Int)) (hf : inF 1 v l N (z : Int) S.size nt G.length ph) :
    Calls Tryd.prog 32 #[.agg (hdC 1 v D S (strOf tf nt) l N (z : Int) ph (.slice a G.length c))] w fun e w' => e = .returned (.tuple #[.string (hputS 1 v D S tf nt l N z ph G), .int .i64 0]) ∧ Below w.heap.size w w' := by
  obtain ⟨n, hn⟩ : ∃ n, G.length = n := ⟨_, rfl⟩
  have hTs : (strOf tf nt).size = nt := strOf_size tf nt
  rw [hn] at hL hf ⊢
  have RT := Lib.hid (fun (w' : World) (h : IntsIn w' (.slice a n c) G) => right_any 1 v l N (z : Int) D S (strOf tf nt) D.size S.size nt rfl rfl hTs ph a c n G w' hn h)
  rw [decide_eq_true (show rightP 1 v l N (z : Int) D.size S.size nt n ph G from ⟨hin, hf⟩)] at RT
  obtain ⟨_, hG16, hd, hs, hnt, hv, hl, hN, hz⟩ := hin
  have hzk : (1 : Int) = 3 ∨ (1 : Int) = 5 ∨ ((1 : Int) ≤ (z : Int) ∧ (z : Int) ≤ 4) := by
    unfold inF at hf
    omega
  obtain ⟨nd, hD⟩ : ∃ nd, D.size = nd := ⟨_, rfl⟩
  obtain ⟨ns, hS⟩ : ∃ ns, S.size = ns := ⟨_, rfl⟩
  rw [hD] at hd
  rw [hS] at hs
  have NM := Lib.hid (fun (w' : World) => names_any 1 v l N (z : Int) D S (strOf tf nt) nd ns hD hS hd hs ph (.slice a n c) w')
  have HL := Lib.hid hL
  have LV := Lib.hid (fun w' => (show Calls Tryd.prog 55 #[.int .i64 v, .int .i64 4] w' fun e w'' => e = .returned (.string (lowS v 4)) ∧ Below w'.heap.size w' w'' from low_any v 4 w' (by omega)))
  have LN := Lib.hid (fun w' => low_any N z w' (by omega))
  have zv := lowS_size v 4
  have zN := lowS_size N z
  obtain ⟨hz1, hz4⟩ : (1 : Int) ≤ (z : Int) ∧ (z : Int) ≤ 4 := by omega
  obtain ⟨A1, hA1⟩ : ∃ A, lowS (207 + (z : Int)) 1 = A := ⟨_, rfl⟩
  have LF := Lib.hid (fun w' => (show Calls Tryd.prog 55 #[.int .i64 (207 + (z : Int)), .int .i64 1] w' fun e w'' => e = .returned (.string A1) ∧ Below w'.heap.size w' w'' from by rw [← hA1]; exact low_any (207 + (z : Int)) 1 w' (by omega)))
  have zA : A1.size = 1 := by rw [← hA1]; exact lowS_size _ _
  obtain ⟨AV, hAV⟩ : ∃ A, lowS v 4 = A := ⟨_, rfl⟩
  obtain ⟨NT, hNT⟩ : ∃ A, lowS (nd : Int) 1 ++ D ++ lowS (ns : Int) 1 ++ S = A := ⟨_, rfl⟩
  have zNT : NT.size = 1 + nd + 1 + ns := by rw [← hNT]; simp only [ByteArray.size_append, lowS_size, hD, hS]
  obtain ⟨P1, h1⟩ : ∃ P, A1 ++ AV = P := ⟨_, rfl⟩
  obtain ⟨P2, h2⟩ : ∃ P, P1 ++ NT = P := ⟨_, rfl⟩
  have PP : preS 1 v z ph D S = P2 := by
    rw [← h2, ← h1, ← hNT, ← hAV, ← hA1]
    unfold preS
    rw [hD, hS]
    simp only [ByteArray.append_assoc]
    rfl
  rw [hAV] at LV zv
  rw [hNT] at NM
  have y1 : P1.size = 5 := by rw [← h1, ByteArray.size_append, zA, zv]
  have y2 : P2.size = 5 + (1 + nd + 1 + ns) := by rw [← h2, ByteArray.size_append, y1, zNT]
  have q1 : ¬ 9223372036854775807 < 1 + 4 := by omega
  have q2 : ¬ 9223372036854775807 < 5 + (1 + nd + 1 + ns) := by omega
  obtain ⟨A5, hA5⟩ : ∃ A, lenS l = A := ⟨_, rfl⟩
  obtain ⟨A6, hA6⟩ : ∃ A, lowS N z = A := ⟨_, rfl⟩
  obtain ⟨P3, h3⟩ : ∃ P, P2 ++ A5 = P := ⟨_, rfl⟩
  obtain ⟨P4, h4⟩ : ∃ P, P3 ++ A6 = P := ⟨_, rfl⟩
  have z5 : A5.size = 2 := by rw [← hA5]; exact strOf_size _ _
  have PE : hputS 1 v D S tf nt l N z ph G = P4 := by unfold hputS; rw [← h4, ← h3, ← hA5, ← hA6]; simp [PP]
  rw [PE]
  have y3 : P3.size = 5 + (1 + nd + 1 + ns) + 2 := by rw [← h3, ByteArray.size_append, y2, z5]
  rw [hA6] at LN zN
  have nl : n64 (BitVec.ofInt 64 l) = l := by rw [n64_nat, BitVec.toNat_ofInt]; omega
  have PI := Lib.hid (fun w' => (show Calls Tryd.prog 16 #[.int .u64 l, .int .i64 2] w' fun e w'' => e = .returned (.tuple #[.string A5, .int .i64 0]) ∧ Below w'.heap.size w' w'' from by
    have h := refIn_ok (BitVec.ofInt 64 l) 1 (by omega) (by rw [BitVec.toNat_ofInt]; omega) w'
    rw [nl] at h
    rw [← hA5]
    exact h))
  have q3 : ¬ 9223372036854775807 < 5 + (1 + nd + 1 + ns) + 2 := by omega
  have q4 : ¬ 9223372036854775807 < 5 + (1 + nd + 1 + ns) + 2 + z := by omega
  have eF : (208 : Int) + (z : Int) - 1 = 207 + (z : Int) := by omega
  obtain ⟨hl0, hl1⟩ := hl
  have hl : 0 ≤ l := hl0
  obtain ⟨T, hT⟩ : ∃ T, strOf tf nt = T := ⟨_, rfl⟩
  rw [hT] at hTs RT NM ⊢
  clear PE hA1 hAV hNT hT PP hzk hz hA5 hA6 nl
  clear hf hL hv hl hN
  unfold hdC at RT NM ⊢
  go_enter Tryd.func32, Tryd.ntmps32
  have row := heap_alloc_last w (.cells #[.int .i64 1, .int .i64 v, .string D, .string S, .string T, .int .i64 l, .int .i64 N, .int .i64 (z : Int), .bool ph, .slice a n c] 63)
  have bel := (Below.refl w.heap.size w).alloc (Nat.le_refl _) (.cells #[.int .i64 1, .int .i64 v, .string D, .string S, .string T, .int .i64 l, .int .i64 N, .int .i64 (z : Int), .bool ph, .slice a n c] 63)
  go_upto_region 1 with (fail)
  generalize w.alloc _ = wa at *
  have ROW := Lib.hid row
  have BEL := Lib.hid bel
  have CX := Lib.hid (fun (w' : World) (hb : Below wa.heap.size wa w') => cells10 ((hb.block _ (lt_row ROW.out)).trans ROW.out))
  have hlt := lt_row row
  generalize hq : w.heap.size = q at *
  have HQ := Lib.hid hq
  clear row bel hq
  obtain ⟨c0, c1, c2, c3, c4, c5, c6, c7, c8, c9⟩ := CX.out wa (Below.refl _ _)
  go_wp2_with fail
  with_reducible refine (RT.out wa (HL.out.later (by rw [HQ.out]; exact BEL.out))).mono ?_
  rintro e w1 ⟨rfl, hb1⟩
  have H1 := Lib.hid hb1
  clear hb1 c0 c1 c2 c3 c4 c5 c6 c7 c8 c9 RT
  obtain ⟨c0, c1, c2, c3, c4, c5, c6, c7, c8, c9⟩ := CX.out w1 H1.out
  have EX := Lib.hid (fun (w' : World) (hb : Below w1.heap.size w1 w') => (show Below wa.heap.size wa w' from H1.out.trans (hb.mono H1.out.size)))
  have RES := Lib.hid (fun (w' : World) (hb : Below wa.heap.size wa w') => (show Below w.heap.size w w' by rw [HQ.out]; exact BEL.out.trans (hb.mono (Nat.le_of_lt hlt))))
  go_upto_region 18 with (fail)
  refine region_class 16 (fun w' => Below w1.heap.size w1 w') mixedOrders (by kernel_rfl) (Below.refl _ _).drew ?_
  refine wpQuiet_take (by rfl) (fun K hK => ⟨.pointer (some ⟨q, 0, none⟩), fun w2' hw2 => ?_, hK _ ?_⟩)
  · clear hw2; go_simp
  clear hK K
  simp only [Act.put, List.setIfInBounds_toArray, List.set_cons_succ, List.set_cons_zero]
  refine wpQuiet_take (by rfl) (fun K hK => ⟨.int .i64 1, fun w2' hw2 => ?_, hK _ ?_⟩)
  · obtain ⟨c, _, _, _, _, _, _, _, _, _⟩ := CX.out w2' (EX.out w2' hw2)
    clear hw2; go_simp
  clear hK K
  simp only [Act.put, List.setIfInBounds_toArray, List.set_cons_succ, List.set_cons_zero]
  refine wpQuiet_take (by rfl) (fun K hK => ⟨.int .i64 16, fun w2' hw2 => ?_, hK _ ?_⟩)
  · clear hw2; go_simp
    try (rw [IntKind.wrap_i64]; omega)
  clear hK K
  simp only [Act.put, List.setIfInBounds_toArray, List.set_cons_succ, List.set_cons_zero]
  refine wpQuiet_take (by rfl) (fun K hK => ⟨.int .i64 208, fun w2' hw2 => ?_, hK _ ?_⟩)
  · clear hw2; go_simp
    try (rw [IntKind.wrap_i64]; omega)
  clear hK K
  simp only [Act.put, List.setIfInBounds_toArray, List.set_cons_succ, List.set_cons_zero]
  refine wpQuiet_take (by rfl) (fun K hK => ⟨.pointer (some ⟨q, 7, none⟩), fun w2' hw2 => ?_, hK _ ?_⟩)
  · clear hw2; go_simp
  clear hK K
  simp only [Act.put, List.setIfInBounds_toArray, List.set_cons_succ, List.set_cons_zero]
  refine wpQuiet_take (by rfl) (fun K hK => ⟨.int .i64 (z : Int), fun w2' hw2 => ?_, hK _ ?_⟩)
  · obtain ⟨_, _, _, _, _, _, _, c, _, _⟩ := CX.out w2' (EX.out w2' hw2)
    clear hw2; go_simp
  clear hK K
  simp only [Act.put, List.setIfInBounds_toArray, List.set_cons_succ, List.set_cons_zero]
  refine wpQuiet_take (by rfl) (fun K hK => ⟨.int .i64 (208 + (z : Int)), fun w2' hw2 => ?_, hK _ ?_⟩)
  · clear hw2; go_simp
    try (rw [IntKind.wrap_i64]; omega)
  clear hK K
  simp only [Act.put, List.setIfInBounds_toArray, List.set_cons_succ, List.set_cons_zero]
  refine wpQuiet_take (by rfl) (fun K hK => ⟨.int .i64 (207 + (z : Int)), fun w2' hw2 => ?_, hK _ ?_⟩)
  · clear hw2; go_simp
    try (rw [IntKind.wrap_i64]; omega)
  clear hK K
  simp only [Act.put, List.setIfInBounds_toArray, List.set_cons_succ, List.set_cons_zero]
  refine wpQuiet_take (by rfl) (fun K hK => ⟨.string A1, fun w2' hw2 => ?_, hK _ ?_⟩)
  · go_simp
    go_at_call 55
    with_reducible refine (LF.out w2').mono ?_
    rintro e w5 ⟨rfl, hb5⟩
    exact ⟨rfl, hw2.trans (hb5.mono hw2.size)⟩
  clear hK K
  simp only [Act.put, List.setIfInBounds_toArray, List.set_cons_succ, List.set_cons_zero]
  refine wpQuiet_take (by rfl) (fun K hK => ⟨.pointer (some ⟨q, 1, none⟩), fun w2' hw2 => ?_, hK _ ?_⟩)
  · clear hw2; go_simp
  clear hK K
  simp only [Act.put, List.setIfInBounds_toArray, List.set_cons_succ, List.set_cons_zero]
  refine wpQuiet_take (by rfl) (fun K hK => ⟨.int .i64 v, fun w2' hw2 => ?_, hK _ ?_⟩)
  · obtain ⟨_, c, _, _, _, _, _, _, _, _⟩ := CX.out w2' (EX.out w2' hw2)
    clear hw2; go_simp
  clear hK K
  simp only [Act.put, List.setIfInBounds_toArray, List.set_cons_succ, List.set_cons_zero]
  refine wpQuiet_take (by rfl) (fun K hK => ⟨.string AV, fun w2' hw2 => ?_, hK _ ?_⟩)
  · go_simp
    go_at_call 55
    with_reducible refine (LV.out w2').mono ?_
    rintro e w5 ⟨rfl, hb5⟩
    exact ⟨rfl, hw2.trans (hb5.mono hw2.size)⟩
  clear hK K
  simp only [Act.put, List.setIfInBounds_toArray, List.set_cons_succ, List.set_cons_zero]
  refine wpQuiet_take (by rfl) (fun K hK => ⟨.string P1, fun w2' hw2 => ?_, hK _ ?_⟩)
  · clear hw2; go_simp
  clear hK K
  simp only [Act.put, List.setIfInBounds_toArray, List.set_cons_succ, List.set_cons_zero]
  refine wpQuiet_take (by rfl) (fun K hK => ⟨.agg #[.int .i64 1, .int .i64 v, .string D, .string S, .string T, .int .i64 l, .int .i64 N, .int .i64 (z : Int), .bool ph, .slice a n c], fun w2' hw2 => ?_, hK _ ?_⟩)
  · obtain ⟨c0, c1, c2, c3, c4, c5, c6, c7, c8, c9⟩ := CX.out w2' (EX.out w2' hw2)
    clear hw2; go_simp
  clear hK K
  simp only [Act.put, List.setIfInBounds_toArray, List.set_cons_succ, List.set_cons_zero]
  refine wpQuiet_take (by rfl) (fun K hK => ⟨.string NT, fun w2' hw2 => ?_, hK _ ?_⟩)
  · go_simp
    go_at_call 56
    with_reducible refine (NM.out w2').mono ?_
    rintro e w5 ⟨rfl, hb5⟩
    exact ⟨rfl, hw2.trans (hb5.mono hw2.size)⟩
  clear hK K
  simp only [Act.put, List.setIfInBounds_toArray, List.set_cons_succ, List.set_cons_zero]
  refine wpQuiet_take (by rfl) (fun K hK => ⟨.string P2, fun w2' hw2 => ?_, hK _ ?_⟩)
  · clear hw2; go_simp
  clear hK K
  simp only [Act.put, List.setIfInBounds_toArray, List.set_cons_succ, List.set_cons_zero]
  refine wpQuiet_take0 ?_
  intro w6 hb6
  have H6 := Lib.hid (EX.out w6 hb6)
  clear hb6
  clear c0 c1 c2 c3 c4 c5 c6 c7 c8 c9
  obtain ⟨c0, c1, c2, c3, c4, c5, c6, c7, c8, c9⟩ := CX.out w6 H6.out
  go_wp2_with fail
  with_reducible refine (PI.out _).mono ?_
  rintro e w7 ⟨rfl, hb7⟩
  have H7 := Lib.hid (H6.out.trans (hb7.mono H6.out.size))
  clear hb7 c0 c1 c2 c3 c4 c5 c6 c7 c8 c9
  obtain ⟨c0, c1, c2, c3, c4, c5, c6, c7, c8, c9⟩ := CX.out w7 H7.out
  go_wp2_with fail
  with_reducible refine (LN.out _).mono ?_
  rintro e w8 ⟨rfl, hb8⟩
  have H8 := Lib.hid (H7.out.trans (hb8.mono H7.out.size))
  clear hb8 c0 c1 c2 c3 c4 c5 c6 c7 c8 c9
  go_wp2_with fail
  go_ret2
  exact ⟨rfl, RES.out w8 H8.out⟩
set_option maxHeartbeats 16000000 in
theorem docPut_2 (v l N : Int) (z : Nat) (D S : ByteArray) (tf : Nat → BitVec 8) (nt : Nat) (ph : Bool) (a : Option Addr) (c : Nat) (G : List Int) (w : World) (hL : IntsIn w (.slice a G.length c) G) (hin : inB G D.size S.size nt v l N (z : Int)) (hf : inF 2 v l N (z : Int) S.size nt G.length ph) :
    Calls Tryd.prog 32 #[.agg (hdC 2 v D S (strOf tf nt) l N (z : Int) ph (.slice a G.length c))] w fun e w' => e = .returned (.tuple #[.string (hputS 2 v D S tf nt l N z ph G), .int .i64 0]) ∧ Below w.heap.size w w' := by
  obtain ⟨n, hn⟩ : ∃ n, G.length = n := ⟨_, rfl⟩
  have hTs : (strOf tf nt).size = nt := strOf_size tf nt
  rw [hn] at hL hf ⊢
  have RT := Lib.hid (fun (w' : World) (h : IntsIn w' (.slice a n c) G) => right_any 2 v l N (z : Int) D S (strOf tf nt) D.size S.size nt rfl rfl hTs ph a c n G w' hn h)
  rw [decide_eq_true (show rightP 2 v l N (z : Int) D.size S.size nt n ph G from ⟨hin, hf⟩)] at RT
  obtain ⟨_, hG16, hd, hs, hnt, hv, hl, hN, hz⟩ := hin
  have hzk : (2 : Int) = 3 ∨ (2 : Int) = 5 ∨ ((1 : Int) ≤ (z : Int) ∧ (z : Int) ≤ 4) := by
    unfold inF at hf
    omega
  obtain ⟨nd, hD⟩ : ∃ nd, D.size = nd := ⟨_, rfl⟩
  obtain ⟨ns, hS⟩ : ∃ ns, S.size = ns := ⟨_, rfl⟩
  rw [hD] at hd
  rw [hS] at hs
  have NM := Lib.hid (fun (w' : World) => names_any 2 v l N (z : Int) D S (strOf tf nt) nd ns hD hS hd hs ph (.slice a n c) w')
  have HL := Lib.hid hL
  have LV := Lib.hid (fun w' => (show Calls Tryd.prog 55 #[.int .i64 v, .int .i64 4] w' fun e w'' => e = .returned (.string (lowS v 4)) ∧ Below w'.heap.size w' w'' from low_any v 4 w' (by omega)))
  have LN := Lib.hid (fun w' => low_any N z w' (by omega))
  have zv := lowS_size v 4
  have zN := lowS_size N z
  obtain ⟨hz1, hz4⟩ : (1 : Int) ≤ (z : Int) ∧ (z : Int) ≤ 4 := by omega
  obtain ⟨A1, hA1⟩ : ∃ A, lowS (223 + (z : Int)) 1 = A := ⟨_, rfl⟩
  have LF := Lib.hid (fun w' => (show Calls Tryd.prog 55 #[.int .i64 (223 + (z : Int)), .int .i64 1] w' fun e w'' => e = .returned (.string A1) ∧ Below w'.heap.size w' w'' from by rw [← hA1]; exact low_any (223 + (z : Int)) 1 w' (by omega)))
  have zA : A1.size = 1 := by rw [← hA1]; exact lowS_size _ _
  obtain ⟨AV, hAV⟩ : ∃ A, lowS v 4 = A := ⟨_, rfl⟩
  obtain ⟨NT, hNT⟩ : ∃ A, lowS (nd : Int) 1 ++ D ++ lowS (ns : Int) 1 ++ S = A := ⟨_, rfl⟩
  have zNT : NT.size = 1 + nd + 1 + ns := by rw [← hNT]; simp only [ByteArray.size_append, lowS_size, hD, hS]
  obtain ⟨P1, h1⟩ : ∃ P, A1 ++ AV = P := ⟨_, rfl⟩
  obtain ⟨P2, h2⟩ : ∃ P, P1 ++ NT = P := ⟨_, rfl⟩
  have PP : preS 2 v z ph D S = P2 := by
    rw [← h2, ← h1, ← hNT, ← hAV, ← hA1]
    unfold preS
    rw [hD, hS]
    simp only [ByteArray.append_assoc]
    rfl
  rw [hAV] at LV zv
  rw [hNT] at NM
  have y1 : P1.size = 5 := by rw [← h1, ByteArray.size_append, zA, zv]
  have y2 : P2.size = 5 + (1 + nd + 1 + ns) := by rw [← h2, ByteArray.size_append, y1, zNT]
  have q1 : ¬ 9223372036854775807 < 1 + 4 := by omega
  have q2 : ¬ 9223372036854775807 < 5 + (1 + nd + 1 + ns) := by omega
  obtain ⟨A5, hA5⟩ : ∃ A, lenS l = A := ⟨_, rfl⟩
  obtain ⟨A6, hA6⟩ : ∃ A, lowS N z = A := ⟨_, rfl⟩
  obtain ⟨P3, h3⟩ : ∃ P, P2 ++ A5 = P := ⟨_, rfl⟩
  obtain ⟨P4, h4⟩ : ∃ P, P3 ++ A6 = P := ⟨_, rfl⟩
  have z5 : A5.size = 2 := by rw [← hA5]; exact strOf_size _ _
  have PE : hputS 2 v D S tf nt l N z ph G = P4 := by unfold hputS; rw [← h4, ← h3, ← hA5, ← hA6]; simp [PP]
  rw [PE]
  have y3 : P3.size = 5 + (1 + nd + 1 + ns) + 2 := by rw [← h3, ByteArray.size_append, y2, z5]
  rw [hA6] at LN zN
  have nl : n64 (BitVec.ofInt 64 l) = l := by rw [n64_nat, BitVec.toNat_ofInt]; omega
  have PI := Lib.hid (fun w' => (show Calls Tryd.prog 16 #[.int .u64 l, .int .i64 2] w' fun e w'' => e = .returned (.tuple #[.string A5, .int .i64 0]) ∧ Below w'.heap.size w' w'' from by
    have h := refIn_ok (BitVec.ofInt 64 l) 1 (by omega) (by rw [BitVec.toNat_ofInt]; omega) w'
    rw [nl] at h
    rw [← hA5]
    exact h))
  have q3 : ¬ 9223372036854775807 < 5 + (1 + nd + 1 + ns) + 2 := by omega
  have q4 : ¬ 9223372036854775807 < 5 + (1 + nd + 1 + ns) + 2 + z := by omega
  have eF : (224 : Int) + (z : Int) - 1 = 223 + (z : Int) := by omega
  obtain ⟨hl0, hl1⟩ := hl
  have hl : 0 ≤ l := hl0
  obtain ⟨T, hT⟩ : ∃ T, strOf tf nt = T := ⟨_, rfl⟩
  rw [hT] at hTs RT NM ⊢
  clear PE hA1 hAV hNT hT PP hzk hz hA5 hA6 nl
  clear hf hL hv hl hN
  unfold hdC at RT NM ⊢
  go_enter Tryd.func32, Tryd.ntmps32
  have row := heap_alloc_last w (.cells #[.int .i64 2, .int .i64 v, .string D, .string S, .string T, .int .i64 l, .int .i64 N, .int .i64 (z : Int), .bool ph, .slice a n c] 63)
  have bel := (Below.refl w.heap.size w).alloc (Nat.le_refl _) (.cells #[.int .i64 2, .int .i64 v, .string D, .string S, .string T, .int .i64 l, .int .i64 N, .int .i64 (z : Int), .bool ph, .slice a n c] 63)
  go_upto_region 1 with (fail)
  generalize w.alloc _ = wa at *
  have ROW := Lib.hid row
  have BEL := Lib.hid bel
  have CX := Lib.hid (fun (w' : World) (hb : Below wa.heap.size wa w') => cells10 ((hb.block _ (lt_row ROW.out)).trans ROW.out))
  have hlt := lt_row row
  generalize hq : w.heap.size = q at *
  have HQ := Lib.hid hq
  clear row bel hq
  obtain ⟨c0, c1, c2, c3, c4, c5, c6, c7, c8, c9⟩ := CX.out wa (Below.refl _ _)
  go_wp2_with fail
  with_reducible refine (RT.out wa (HL.out.later (by rw [HQ.out]; exact BEL.out))).mono ?_
  rintro e w1 ⟨rfl, hb1⟩
  have H1 := Lib.hid hb1
  clear hb1 c0 c1 c2 c3 c4 c5 c6 c7 c8 c9 RT
  obtain ⟨c0, c1, c2, c3, c4, c5, c6, c7, c8, c9⟩ := CX.out w1 H1.out
  have EX := Lib.hid (fun (w' : World) (hb : Below w1.heap.size w1 w') => (show Below wa.heap.size wa w' from H1.out.trans (hb.mono H1.out.size)))
  have RES := Lib.hid (fun (w' : World) (hb : Below wa.heap.size wa w') => (show Below w.heap.size w w' by rw [HQ.out]; exact BEL.out.trans (hb.mono (Nat.le_of_lt hlt))))
  go_upto_region 18 with (fail)
  refine region_class 16 (fun w' => Below w1.heap.size w1 w') mixedOrders (by kernel_rfl) (Below.refl _ _).drew ?_
  refine wpQuiet_take (by rfl) (fun K hK => ⟨.pointer (some ⟨q, 0, none⟩), fun w2' hw2 => ?_, hK _ ?_⟩)
  · clear hw2; go_simp
  clear hK K
  simp only [Act.put, List.setIfInBounds_toArray, List.set_cons_succ, List.set_cons_zero]
  refine wpQuiet_take (by rfl) (fun K hK => ⟨.int .i64 2, fun w2' hw2 => ?_, hK _ ?_⟩)
  · obtain ⟨c, _, _, _, _, _, _, _, _, _⟩ := CX.out w2' (EX.out w2' hw2)
    clear hw2; go_simp
  clear hK K
  simp only [Act.put, List.setIfInBounds_toArray, List.set_cons_succ, List.set_cons_zero]
  refine wpQuiet_take (by rfl) (fun K hK => ⟨.int .i64 32, fun w2' hw2 => ?_, hK _ ?_⟩)
  · clear hw2; go_simp
    try (rw [IntKind.wrap_i64]; omega)
  clear hK K
  simp only [Act.put, List.setIfInBounds_toArray, List.set_cons_succ, List.set_cons_zero]
  refine wpQuiet_take (by rfl) (fun K hK => ⟨.int .i64 224, fun w2' hw2 => ?_, hK _ ?_⟩)
  · clear hw2; go_simp
    try (rw [IntKind.wrap_i64]; omega)
  clear hK K
  simp only [Act.put, List.setIfInBounds_toArray, List.set_cons_succ, List.set_cons_zero]
  refine wpQuiet_take (by rfl) (fun K hK => ⟨.pointer (some ⟨q, 7, none⟩), fun w2' hw2 => ?_, hK _ ?_⟩)
  · clear hw2; go_simp
  clear hK K
  simp only [Act.put, List.setIfInBounds_toArray, List.set_cons_succ, List.set_cons_zero]
  refine wpQuiet_take (by rfl) (fun K hK => ⟨.int .i64 (z : Int), fun w2' hw2 => ?_, hK _ ?_⟩)
  · obtain ⟨_, _, _, _, _, _, _, c, _, _⟩ := CX.out w2' (EX.out w2' hw2)
    clear hw2; go_simp
  clear hK K
  simp only [Act.put, List.setIfInBounds_toArray, List.set_cons_succ, List.set_cons_zero]
  refine wpQuiet_take (by rfl) (fun K hK => ⟨.int .i64 (224 + (z : Int)), fun w2' hw2 => ?_, hK _ ?_⟩)
  · clear hw2; go_simp
    try (rw [IntKind.wrap_i64]; omega)
  clear hK K
  simp only [Act.put, List.setIfInBounds_toArray, List.set_cons_succ, List.set_cons_zero]
  refine wpQuiet_take (by rfl) (fun K hK => ⟨.int .i64 (223 + (z : Int)), fun w2' hw2 => ?_, hK _ ?_⟩)
  · clear hw2; go_simp
    try (rw [IntKind.wrap_i64]; omega)
  clear hK K
  simp only [Act.put, List.setIfInBounds_toArray, List.set_cons_succ, List.set_cons_zero]
  refine wpQuiet_take (by rfl) (fun K hK => ⟨.string A1, fun w2' hw2 => ?_, hK _ ?_⟩)
  · go_simp
    go_at_call 55
    with_reducible refine (LF.out w2').mono ?_
    rintro e w5 ⟨rfl, hb5⟩
    exact ⟨rfl, hw2.trans (hb5.mono hw2.size)⟩
  clear hK K
  simp only [Act.put, List.setIfInBounds_toArray, List.set_cons_succ, List.set_cons_zero]
  refine wpQuiet_take (by rfl) (fun K hK => ⟨.pointer (some ⟨q, 1, none⟩), fun w2' hw2 => ?_, hK _ ?_⟩)
  · clear hw2; go_simp
  clear hK K
  simp only [Act.put, List.setIfInBounds_toArray, List.set_cons_succ, List.set_cons_zero]
  refine wpQuiet_take (by rfl) (fun K hK => ⟨.int .i64 v, fun w2' hw2 => ?_, hK _ ?_⟩)
  · obtain ⟨_, c, _, _, _, _, _, _, _, _⟩ := CX.out w2' (EX.out w2' hw2)
    clear hw2; go_simp
  clear hK K
  simp only [Act.put, List.setIfInBounds_toArray, List.set_cons_succ, List.set_cons_zero]
  refine wpQuiet_take (by rfl) (fun K hK => ⟨.string AV, fun w2' hw2 => ?_, hK _ ?_⟩)
  · go_simp
    go_at_call 55
    with_reducible refine (LV.out w2').mono ?_
    rintro e w5 ⟨rfl, hb5⟩
    exact ⟨rfl, hw2.trans (hb5.mono hw2.size)⟩
  clear hK K
  simp only [Act.put, List.setIfInBounds_toArray, List.set_cons_succ, List.set_cons_zero]
  refine wpQuiet_take (by rfl) (fun K hK => ⟨.string P1, fun w2' hw2 => ?_, hK _ ?_⟩)
  · clear hw2; go_simp
  clear hK K
  simp only [Act.put, List.setIfInBounds_toArray, List.set_cons_succ, List.set_cons_zero]
  refine wpQuiet_take (by rfl) (fun K hK => ⟨.agg #[.int .i64 2, .int .i64 v, .string D, .string S, .string T, .int .i64 l, .int .i64 N, .int .i64 (z : Int), .bool ph, .slice a n c], fun w2' hw2 => ?_, hK _ ?_⟩)
  · obtain ⟨c0, c1, c2, c3, c4, c5, c6, c7, c8, c9⟩ := CX.out w2' (EX.out w2' hw2)
    clear hw2; go_simp
  clear hK K
  simp only [Act.put, List.setIfInBounds_toArray, List.set_cons_succ, List.set_cons_zero]
  refine wpQuiet_take (by rfl) (fun K hK => ⟨.string NT, fun w2' hw2 => ?_, hK _ ?_⟩)
  · go_simp
    go_at_call 56
    with_reducible refine (NM.out w2').mono ?_
    rintro e w5 ⟨rfl, hb5⟩
    exact ⟨rfl, hw2.trans (hb5.mono hw2.size)⟩
  clear hK K
  simp only [Act.put, List.setIfInBounds_toArray, List.set_cons_succ, List.set_cons_zero]
  refine wpQuiet_take (by rfl) (fun K hK => ⟨.string P2, fun w2' hw2 => ?_, hK _ ?_⟩)
  · clear hw2; go_simp
  clear hK K
  simp only [Act.put, List.setIfInBounds_toArray, List.set_cons_succ, List.set_cons_zero]
  refine wpQuiet_take0 ?_
  intro w6 hb6
  have H6 := Lib.hid (EX.out w6 hb6)
  clear hb6
  clear c0 c1 c2 c3 c4 c5 c6 c7 c8 c9
  obtain ⟨c0, c1, c2, c3, c4, c5, c6, c7, c8, c9⟩ := CX.out w6 H6.out
  go_wp2_with fail
  with_reducible refine (PI.out _).mono ?_
  rintro e w7 ⟨rfl, hb7⟩
  have H7 := Lib.hid (H6.out.trans (hb7.mono H6.out.size))
  clear hb7 c0 c1 c2 c3 c4 c5 c6 c7 c8 c9
  obtain ⟨c0, c1, c2, c3, c4, c5, c6, c7, c8, c9⟩ := CX.out w7 H7.out
  go_wp2_with fail
  with_reducible refine (LN.out _).mono ?_
  rintro e w8 ⟨rfl, hb8⟩
  have H8 := Lib.hid (H7.out.trans (hb8.mono H7.out.size))
  clear hb8 c0 c1 c2 c3 c4 c5 c6 c7 c8 c9
  go_wp2_with fail
  go_ret2
  exact ⟨rfl, RES.out w8 H8.out⟩
set_option maxHeartbeats 16000000 in
theorem docPut_5 (v l N : Int) (z : Nat) (D S : ByteArray) (tf : Nat → BitVec 8) (nt : Nat) (ph : Bool) (a : Option Addr) (c : Nat) (G : List Int) (w : World) (hL : IntsIn w (.slice a G.length c) G) (hin : inB G D.size S.size nt v l N (z : Int)) (hf : inF 5 v l N (z : Int) S.size nt G.length ph) :
    Calls Tryd.prog 32 #[.agg (hdC 5 v D S (strOf tf nt) l N (z : Int) ph (.slice a G.length c))] w fun e w' => e = .returned (.tuple #[.string (hputS 5 v D S tf nt l N z ph G), .int .i64 0]) ∧ Below w.heap.size w w' := by
  obtain ⟨n, hn⟩ : ∃ n, G.length = n := ⟨_, rfl⟩
  have hTs : (strOf tf nt).size = nt := strOf_size tf nt
  rw [hn] at hL hf ⊢
  have RT := Lib.hid (fun (w' : World) (h : IntsIn w' (.slice a n c) G) => right_any 5 v l N (z : Int) D S (strOf tf nt) D.size S.size nt rfl rfl hTs ph a c n G w' hn h)
  rw [decide_eq_true (show rightP 5 v l N (z : Int) D.size S.size nt n ph G from ⟨hin, hf⟩)] at RT
  obtain ⟨_, hG16, hd, hs, hnt, hv, hl, hN, hz⟩ := hin
  have hzk : (5 : Int) = 3 ∨ (5 : Int) = 5 ∨ ((1 : Int) ≤ (z : Int) ∧ (z : Int) ≤ 4) := by
    unfold inF at hf
    omega
  obtain ⟨nd, hD⟩ : ∃ nd, D.size = nd := ⟨_, rfl⟩
  obtain ⟨ns, hS⟩ : ∃ ns, S.size = ns := ⟨_, rfl⟩
  rw [hD] at hd
  rw [hS] at hs
  have NM := Lib.hid (fun (w' : World) => names_any 5 v l N (z : Int) D S (strOf tf nt) nd ns hD hS hd hs ph (.slice a n c) w')
  have HL := Lib.hid hL
  have LV := Lib.hid (fun w' => (show Calls Tryd.prog 55 #[.int .i64 v, .int .i64 4] w' fun e w'' => e = .returned (.string (lowS v 4)) ∧ Below w'.heap.size w' w'' from low_any v 4 w' (by omega)))
  have LN := Lib.hid (fun w' => low_any N z w' (by omega))
  have zv := lowS_size v 4
  have zN := lowS_size N z
  obtain ⟨A1, hA1⟩ : ∃ A, (⟨#[192]⟩ : ByteArray) = A := ⟨_, rfl⟩
  have zA : A1.size = 1 := by rw [← hA1]; rfl
  obtain rfl : v = 0 := by unfold inF at hf; omega
  obtain ⟨AV, hAV⟩ : ∃ A, lowS 0 4 = A := ⟨_, rfl⟩
  obtain ⟨NT, hNT⟩ : ∃ A, lowS (nd : Int) 1 ++ D ++ lowS (ns : Int) 1 ++ S = A := ⟨_, rfl⟩
  have zNT : NT.size = 1 + nd + 1 + ns := by rw [← hNT]; simp only [ByteArray.size_append, lowS_size, hD, hS]
  obtain ⟨P1, h1⟩ : ∃ P, A1 ++ AV = P := ⟨_, rfl⟩
  obtain ⟨P2, h2⟩ : ∃ P, P1 ++ NT = P := ⟨_, rfl⟩
  have PP : preS 5 0 z ph D S = P2 := by
    rw [← h2, ← h1, ← hNT, ← hAV, ← hA1]
    unfold preS
    rw [hD, hS]
    simp only [ByteArray.append_assoc]
    rfl
  rw [hAV] at LV zv
  rw [hNT] at NM
  have y1 : P1.size = 5 := by rw [← h1, ByteArray.size_append, zA, zv]
  have y2 : P2.size = 5 + (1 + nd + 1 + ns) := by rw [← h2, ByteArray.size_append, y1, zNT]
  have q1 : ¬ 9223372036854775807 < 1 + 4 := by omega
  have q2 : ¬ 9223372036854775807 < 5 + (1 + nd + 1 + ns) := by omega
  have PE : hputS 5 0 D S tf nt l N z ph G = G.foldl (fun s x => s ++ lowS x 4) P2 := by unfold hputS; simp [PP]
  obtain ⟨OUT, hO⟩ : ∃ O, G.foldl (fun s x => s ++ lowS x 4) P2 = O := ⟨_, rfl⟩
  have HO := Lib.hid hO
  have HN := Lib.hid hn
  rw [PE, hO]
  obtain ⟨T, hT⟩ : ∃ T, strOf tf nt = T := ⟨_, rfl⟩
  rw [hT] at hTs RT NM ⊢
  rw [← hA1] at h1
  have LX := Lib.hid (fun (x : Int) (w' : World) => (show Calls Tryd.prog 55 #[.int .i64 x, .int .i64 4] w' fun e w'' => e = .returned (.string (lowS x 4)) ∧ Below w'.heap.size w' w'' from low_any x 4 w' (by omega)))
  have GT := Lib.hid (fun (i : Nat) (hi : i < G.length) => (show (G.take (i + 1)).foldl (fun s x => s ++ lowS x 4) P2 = (G.take i).foldl (fun s x => s ++ lowS x 4) P2 ++ lowS G[i] 4 from by rw [List.take_succ_eq_append_getElem hi, List.foldl_append]; rfl))
  have ZL := Lib.hid (fun x => lowS_size x 4)
  have hn16 : n ≤ 16 := by omega
  clear PE hA1 hAV hNT hT PP hzk hO hn hG16
  clear hf hL hv hl hN
  unfold hdC at RT NM ⊢
  go_enter Tryd.func32, Tryd.ntmps32
  have row := heap_alloc_last w (.cells #[.int .i64 5, .int .i64 0, .string D, .string S, .string T, .int .i64 l, .int .i64 N, .int .i64 (z : Int), .bool ph, .slice a n c] 63)
  have bel := (Below.refl w.heap.size w).alloc (Nat.le_refl _) (.cells #[.int .i64 5, .int .i64 0, .string D, .string S, .string T, .int .i64 l, .int .i64 N, .int .i64 (z : Int), .bool ph, .slice a n c] 63)
  go_upto_region 1 with (fail)
  generalize w.alloc _ = wa at *
  have ROW := Lib.hid row
  have BEL := Lib.hid bel
  have CX := Lib.hid (fun (w' : World) (hb : Below wa.heap.size wa w') => cells10 ((hb.block _ (lt_row ROW.out)).trans ROW.out))
  have hlt := lt_row row
  generalize hq : w.heap.size = q at *
  have HQ := Lib.hid hq
  clear row bel hq
  obtain ⟨c0, c1, c2, c3, c4, c5, c6, c7, c8, c9⟩ := CX.out wa (Below.refl _ _)
  go_wp2_with fail
  with_reducible refine (RT.out wa (HL.out.later (by rw [HQ.out]; exact BEL.out))).mono ?_
  rintro e w1 ⟨rfl, hb1⟩
  have H1 := Lib.hid hb1
  clear hb1 c0 c1 c2 c3 c4 c5 c6 c7 c8 c9 RT
  obtain ⟨c0, c1, c2, c3, c4, c5, c6, c7, c8, c9⟩ := CX.out w1 H1.out
  have EX := Lib.hid (fun (w' : World) (hb : Below w1.heap.size w1 w') => (show Below wa.heap.size wa w' from H1.out.trans (hb.mono H1.out.size)))
  have RES := Lib.hid (fun (w' : World) (hb : Below wa.heap.size wa w') => (show Below w.heap.size w w' by rw [HQ.out]; exact BEL.out.trans (hb.mono (Nat.le_of_lt hlt))))
  go_upto_region 12 with (fail)
  refine region_class 5 (fun w' => Below w1.heap.size w1 w') mixedOrders (by kernel_rfl) (Below.refl _ _).drew ?_
  refine wpQuiet_take (by rfl) (fun K hK => ⟨.string AV, fun w2' hw2 => ?_, hK _ ?_⟩)
  · go_simp
    go_at_call 55
    with_reducible refine (LV.out w2').mono ?_
    rintro e w5 ⟨rfl, hb5⟩
    exact ⟨rfl, hw2.trans (hb5.mono hw2.size)⟩
  clear hK K
  simp only [Act.put, List.setIfInBounds_toArray, List.set_cons_succ, List.set_cons_zero]
  refine wpQuiet_take (by rfl) (fun K hK => ⟨.string P1, fun w2' hw2 => ?_, hK _ ?_⟩)
  · have zc : (⟨#[192]⟩ : ByteArray).size = 1 := rfl
    clear hw2; go_simp
  clear hK K
  simp only [Act.put, List.setIfInBounds_toArray, List.set_cons_succ, List.set_cons_zero]
  refine wpQuiet_take (by rfl) (fun K hK => ⟨.agg #[.int .i64 5, .int .i64 0, .string D, .string S, .string T, .int .i64 l, .int .i64 N, .int .i64 (z : Int), .bool ph, .slice a n c], fun w2' hw2 => ?_, hK _ ?_⟩)
  · obtain ⟨c0, c1, c2, c3, c4, c5, c6, c7, c8, c9⟩ := CX.out w2' (EX.out w2' hw2)
    clear hw2; go_simp
  clear hK K
  simp only [Act.put, List.setIfInBounds_toArray, List.set_cons_succ, List.set_cons_zero]
  refine wpQuiet_take (by rfl) (fun K hK => ⟨.string NT, fun w2' hw2 => ?_, hK _ ?_⟩)
  · go_simp
    go_at_call 56
    with_reducible refine (NM.out w2').mono ?_
    rintro e w5 ⟨rfl, hb5⟩
    exact ⟨rfl, hw2.trans (hb5.mono hw2.size)⟩
  clear hK K
  simp only [Act.put, List.setIfInBounds_toArray, List.set_cons_succ, List.set_cons_zero]
  refine wpQuiet_take (by rfl) (fun K hK => ⟨.string P2, fun w2' hw2 => ?_, hK _ ?_⟩)
  · clear hw2; go_simp
  clear hK K
  simp only [Act.put, List.setIfInBounds_toArray, List.set_cons_succ, List.set_cons_zero]
  refine wpQuiet_take0 ?_
  intro w6 hb6
  have H6 := Lib.hid (EX.out w6 hb6)
  clear hb6
  clear c0 c1 c2 c3 c4 c5 c6 c7 c8 c9
  go_wp2_with fail
  go_loopw [5, 6] (fun s5 s6 wr => ∃ i : Nat, i ≤ n ∧ s6 = .int .i64 (i : Int) ∧ s5 = .string ((G.take i).foldl (fun s x => s ++ lowS x 4) P2) ∧ ((G.take i).foldl (fun s x => s ++ lowS x 4) P2).size ≤ 60 + 4 * i ∧ Below wa.heap.size wa wr) (fun _ s6 _ => n - (intOf s6).toNat)
  case atStart => exact ⟨0, by omega, rfl, rfl, by simp only [List.take_zero, List.foldl_nil]; omega, H6.out⟩
  case round =>
    obtain ⟨i, hi, rfl, rfl, hsz, hb⟩ := hrel
    have HB := Lib.hid hb
    clear hb
    obtain ⟨c0, c1, c2, c3, c4, c5, c6, c7, c8, c9⟩ := CX.out wr HB.out
    by_cases hin : i < n
    · have hinI : (i : Int) < (n : Int) := by omega
      obtain ⟨a', c', e, _, hat⟩ := (HL.out.later (RES.out wr HB.out)).at_
      injection e with e1 e2 e3
      obtain ⟨b', o, ea, hlt, hcell⟩ := hat i (by rw [HN.out]; exact hin)
      rw [← e1] at ea
      obtain ⟨y, hy⟩ : ∃ y, G[i]'(by rw [HN.out]; exact hin) = y := ⟨_, rfl⟩
      have gt := GT.out i (by rw [HN.out]; exact hin)
      rw [hy] at hcell gt
      have GTI := Lib.hid gt
      have zl := ZL.out y
      subst ea
      clear gt hy hat e1 e2 e3 hlt
      generalize hQI : (G.take i).foldl (fun s x => s ++ lowS x 4) P2 = QI at *
      clear hQI
      obtain ⟨m, hm⟩ : ∃ m, QI.size = m := ⟨_, rfl⟩
      rw [hm] at hsz
      have q3 : ¬ 9223372036854775807 < m + 4 := by omega
      have LY := Lib.hid (LX.out y)
      obtain ⟨Y, hY⟩ : ∃ Y, lowS y 4 = Y := ⟨_, rfl⟩
      rw [hY] at LY GTI zl
      have HM := Lib.hid hm
      clear hY
      go_wp2_with fail
      with_reducible refine (LY.out _).mono ?_
      rintro e w8 ⟨rfl, b8⟩
      have H8 := Lib.hid (HB.out.trans (b8.mono HB.out.size))
      clear b8 hcell c0 c1 c2 c3 c4 c5 c6 c7 c8 c9
      go_wp2_with fail
      go_roundw
      case rel => exact ⟨i + 1, by omega, by go_num, by rw [GTI.out], by rw [GTI.out, ByteArray.size_append, HM.out, zl]; omega, H8.out⟩
      case measure => simp [intOf]; omega
    · obtain rfl : i = n := by omega
      have eG : Hid (G.take i = G) := Lib.hid (List.take_of_length_le (by rw [HN.out]; exact Nat.le_refl _))
      have RR := Lib.hid (RES.out wr HB.out)
      rw [eG.out]
      go_wp2_with fail
      go_ret2
      exact ⟨congrArg (fun s => Ending.returned (Value.tuple #[.string s, .int .i64 0])) HO.out, RR.out⟩
set_option maxHeartbeats 16000000 in
theorem docPut_0 (v l N : Int) (z : Nat) (D S : ByteArray) (tf : Nat → BitVec 8) (nt : Nat) (ph : Bool) (a : Option Addr) (c : Nat) (G : List Int) (w : World) (hL : IntsIn w (.slice a G.length c) G) (hin : inB G D.size S.size nt v l N (z : Int)) (hf : inF 0 v l N (z : Int) S.size nt G.length ph) :
    Calls Tryd.prog 32 #[.agg (hdC 0 v D S (strOf tf nt) l N (z : Int) ph (.slice a G.length c))] w fun e w' => e = .returned (.tuple #[.string (hputS 0 v D S tf nt l N z ph G), .int .i64 0]) ∧ Below w.heap.size w w' := by
  obtain ⟨n, hn⟩ : ∃ n, G.length = n := ⟨_, rfl⟩
  have hTs : (strOf tf nt).size = nt := strOf_size tf nt
  rw [hn] at hL hf ⊢
  have RT := Lib.hid (fun (w' : World) (h : IntsIn w' (.slice a n c) G) => right_any 0 v l N (z : Int) D S (strOf tf nt) D.size S.size nt rfl rfl hTs ph a c n G w' hn h)
  rw [decide_eq_true (show rightP 0 v l N (z : Int) D.size S.size nt n ph G from ⟨hin, hf⟩)] at RT
  obtain ⟨_, hG16, hd, hs, hnt, hv, hl, hN, hz⟩ := hin
  have hzk : (0 : Int) = 3 ∨ (0 : Int) = 5 ∨ ((1 : Int) ≤ (z : Int) ∧ (z : Int) ≤ 4) := by
    unfold inF at hf
    omega
  obtain ⟨nd, hD⟩ : ∃ nd, D.size = nd := ⟨_, rfl⟩
  obtain ⟨ns, hS⟩ : ∃ ns, S.size = ns := ⟨_, rfl⟩
  rw [hD] at hd
  rw [hS] at hs
  have NM := Lib.hid (fun (w' : World) => names_any 0 v l N (z : Int) D S (strOf tf nt) nd ns hD hS hd hs ph (.slice a n c) w')
  have HL := Lib.hid hL
  have LV := Lib.hid (fun w' => (show Calls Tryd.prog 55 #[.int .i64 v, .int .i64 4] w' fun e w'' => e = .returned (.string (lowS v 4)) ∧ Below w'.heap.size w' w'' from low_any v 4 w' (by omega)))
  have LN := Lib.hid (fun w' => low_any N z w' (by omega))
  have zv := lowS_size v 4
  have zN := lowS_size N z
  obtain ⟨hz1, hz4⟩ : (1 : Int) ≤ (z : Int) ∧ (z : Int) ≤ 4 := by omega
  obtain ⟨A1, hA1⟩ : ∃ A, lowS (191 + (z : Int)) 1 = A := ⟨_, rfl⟩
  have LF := Lib.hid (fun w' => (show Calls Tryd.prog 55 #[.int .i64 (191 + (z : Int)), .int .i64 1] w' fun e w'' => e = .returned (.string A1) ∧ Below w'.heap.size w' w'' from by rw [← hA1]; exact low_any (191 + (z : Int)) 1 w' (by omega)))
  have zA : A1.size = 1 := by rw [← hA1]; exact lowS_size _ _
  obtain ⟨AV, hAV⟩ : ∃ A, lowS v 4 = A := ⟨_, rfl⟩
  obtain ⟨NT, hNT⟩ : ∃ A, lowS (nd : Int) 1 ++ D ++ lowS (ns : Int) 1 ++ S = A := ⟨_, rfl⟩
  have zNT : NT.size = 1 + nd + 1 + ns := by rw [← hNT]; simp only [ByteArray.size_append, lowS_size, hD, hS]
  obtain ⟨P1, h1⟩ : ∃ P, A1 ++ AV = P := ⟨_, rfl⟩
  obtain ⟨P2, h2⟩ : ∃ P, P1 ++ NT = P := ⟨_, rfl⟩
  have PP : preS 0 v z ph D S = P2 := by
    rw [← h2, ← h1, ← hNT, ← hAV, ← hA1]
    unfold preS
    rw [hD, hS]
    simp only [ByteArray.append_assoc]
    rfl
  rw [hAV] at LV zv
  rw [hNT] at NM
  have y1 : P1.size = 5 := by rw [← h1, ByteArray.size_append, zA, zv]
  have y2 : P2.size = 5 + (1 + nd + 1 + ns) := by rw [← h2, ByteArray.size_append, y1, zNT]
  have q1 : ¬ 9223372036854775807 < 1 + 4 := by omega
  have q2 : ¬ 9223372036854775807 < 5 + (1 + nd + 1 + ns) := by omega
  obtain ⟨A5, hA5⟩ : ∃ A, lenS l = A := ⟨_, rfl⟩
  obtain ⟨A6, hA6⟩ : ∃ A, lowS N z = A := ⟨_, rfl⟩
  obtain ⟨A9, hA9⟩ : ∃ A, strOf (textB nt tf) (textK nt + nt) = A := ⟨_, rfl⟩
  have DT := Lib.hid (fun w' => docText_any tf nt w' hnt)
  rw [hA9] at DT
  have TKP := textK_pos nt
  obtain ⟨P9, h9⟩ : ∃ P, P2 ++ A9 = P := ⟨_, rfl⟩
  obtain ⟨P3, h3⟩ : ∃ P, P9 ++ A5 = P := ⟨_, rfl⟩
  have z9 : A9.size = textK nt + nt := by rw [← hA9]; exact strOf_size _ _
  obtain ⟨tk, htk⟩ : ∃ t, textK nt = t := ⟨_, rfl⟩
  rw [htk] at z9 TKP
  have y9 : P9.size = 5 + (1 + nd + 1 + ns) + (tk + nt) := by rw [← h9, ByteArray.size_append, y2, z9]
  have q9 : ¬ 9223372036854775807 < 5 + (1 + nd + 1 + ns) + (tk + nt) := by omega
  obtain ⟨P4, h4⟩ : ∃ P, P3 ++ A6 = P := ⟨_, rfl⟩
  have z5 : A5.size = 2 := by rw [← hA5]; exact strOf_size _ _
  have PE : hputS 0 v D S tf nt l N z ph G = P4 := by unfold hputS; rw [← h4, ← h3, ← h9, ← hA9, ← hA5, ← hA6]; simp [PP]
  rw [PE]
  have y3 : P3.size = 5 + (1 + nd + 1 + ns) + (tk + nt) + 2 := by rw [← h3, ByteArray.size_append, y9, z5]
  rw [hA6] at LN zN
  have nl : n64 (BitVec.ofInt 64 l) = l := by rw [n64_nat, BitVec.toNat_ofInt]; omega
  have PI := Lib.hid (fun w' => (show Calls Tryd.prog 16 #[.int .u64 l, .int .i64 2] w' fun e w'' => e = .returned (.tuple #[.string A5, .int .i64 0]) ∧ Below w'.heap.size w' w'' from by
    have h := refIn_ok (BitVec.ofInt 64 l) 1 (by omega) (by rw [BitVec.toNat_ofInt]; omega) w'
    rw [nl] at h
    rw [← hA5]
    exact h))
  have q3 : ¬ 9223372036854775807 < 5 + (1 + nd + 1 + ns) + (tk + nt) + 2 := by omega
  have q4 : ¬ 9223372036854775807 < 5 + (1 + nd + 1 + ns) + (tk + nt) + 2 + z := by omega
  have eF : (192 : Int) + (z : Int) - 1 = 191 + (z : Int) := by omega
  obtain ⟨hl0, hl1⟩ := hl
  have hl : 0 ≤ l := hl0
  obtain ⟨T, hT⟩ : ∃ T, strOf tf nt = T := ⟨_, rfl⟩
  rw [hT] at hTs RT NM DT ⊢
  clear PE hA9 htk hA1 hAV hNT hT PP hzk hz hA5 hA6 nl
  clear hf hL hv hl hN
  unfold hdC at RT NM ⊢
  go_enter Tryd.func32, Tryd.ntmps32
  have row := heap_alloc_last w (.cells #[.int .i64 0, .int .i64 v, .string D, .string S, .string T, .int .i64 l, .int .i64 N, .int .i64 (z : Int), .bool ph, .slice a n c] 63)
  have bel := (Below.refl w.heap.size w).alloc (Nat.le_refl _) (.cells #[.int .i64 0, .int .i64 v, .string D, .string S, .string T, .int .i64 l, .int .i64 N, .int .i64 (z : Int), .bool ph, .slice a n c] 63)
  go_upto_region 1 with (fail)
  generalize w.alloc _ = wa at *
  have ROW := Lib.hid row
  have BEL := Lib.hid bel
  have CX := Lib.hid (fun (w' : World) (hb : Below wa.heap.size wa w') => cells10 ((hb.block _ (lt_row ROW.out)).trans ROW.out))
  have hlt := lt_row row
  generalize hq : w.heap.size = q at *
  have HQ := Lib.hid hq
  clear row bel hq
  obtain ⟨c0, c1, c2, c3, c4, c5, c6, c7, c8, c9⟩ := CX.out wa (Below.refl _ _)
  go_wp2_with fail
  with_reducible refine (RT.out wa (HL.out.later (by rw [HQ.out]; exact BEL.out))).mono ?_
  rintro e w1 ⟨rfl, hb1⟩
  have H1 := Lib.hid hb1
  clear hb1 c0 c1 c2 c3 c4 c5 c6 c7 c8 c9 RT
  obtain ⟨c0, c1, c2, c3, c4, c5, c6, c7, c8, c9⟩ := CX.out w1 H1.out
  have EX := Lib.hid (fun (w' : World) (hb : Below w1.heap.size w1 w') => (show Below wa.heap.size wa w' from H1.out.trans (hb.mono H1.out.size)))
  have RES := Lib.hid (fun (w' : World) (hb : Below wa.heap.size wa w') => (show Below w.heap.size w w' by rw [HQ.out]; exact BEL.out.trans (hb.mono (Nat.le_of_lt hlt))))
  go_upto_region 18 with (fail)
  refine region_class 16 (fun w' => Below w1.heap.size w1 w') mixedOrders (by kernel_rfl) (Below.refl _ _).drew ?_
  refine wpQuiet_take (by rfl) (fun K hK => ⟨.pointer (some ⟨q, 0, none⟩), fun w2' hw2 => ?_, hK _ ?_⟩)
  · clear hw2; go_simp
  clear hK K
  simp only [Act.put, List.setIfInBounds_toArray, List.set_cons_succ, List.set_cons_zero]
  refine wpQuiet_take (by rfl) (fun K hK => ⟨.int .i64 0, fun w2' hw2 => ?_, hK _ ?_⟩)
  · obtain ⟨c, _, _, _, _, _, _, _, _, _⟩ := CX.out w2' (EX.out w2' hw2)
    clear hw2; go_simp
  clear hK K
  simp only [Act.put, List.setIfInBounds_toArray, List.set_cons_succ, List.set_cons_zero]
  refine wpQuiet_take (by rfl) (fun K hK => ⟨.int .i64 0, fun w2' hw2 => ?_, hK _ ?_⟩)
  · clear hw2; go_simp
    try (rw [IntKind.wrap_i64]; omega)
  clear hK K
  simp only [Act.put, List.setIfInBounds_toArray, List.set_cons_succ, List.set_cons_zero]
  refine wpQuiet_take (by rfl) (fun K hK => ⟨.int .i64 192, fun w2' hw2 => ?_, hK _ ?_⟩)
  · clear hw2; go_simp
    try (rw [IntKind.wrap_i64]; omega)
  clear hK K
  simp only [Act.put, List.setIfInBounds_toArray, List.set_cons_succ, List.set_cons_zero]
  refine wpQuiet_take (by rfl) (fun K hK => ⟨.pointer (some ⟨q, 7, none⟩), fun w2' hw2 => ?_, hK _ ?_⟩)
  · clear hw2; go_simp
  clear hK K
  simp only [Act.put, List.setIfInBounds_toArray, List.set_cons_succ, List.set_cons_zero]
  refine wpQuiet_take (by rfl) (fun K hK => ⟨.int .i64 (z : Int), fun w2' hw2 => ?_, hK _ ?_⟩)
  · obtain ⟨_, _, _, _, _, _, _, c, _, _⟩ := CX.out w2' (EX.out w2' hw2)
    clear hw2; go_simp
  clear hK K
  simp only [Act.put, List.setIfInBounds_toArray, List.set_cons_succ, List.set_cons_zero]
  refine wpQuiet_take (by rfl) (fun K hK => ⟨.int .i64 (192 + (z : Int)), fun w2' hw2 => ?_, hK _ ?_⟩)
  · clear hw2; go_simp
    try (rw [IntKind.wrap_i64]; omega)
  clear hK K
  simp only [Act.put, List.setIfInBounds_toArray, List.set_cons_succ, List.set_cons_zero]
  refine wpQuiet_take (by rfl) (fun K hK => ⟨.int .i64 (191 + (z : Int)), fun w2' hw2 => ?_, hK _ ?_⟩)
  · clear hw2; go_simp
    try (rw [IntKind.wrap_i64]; omega)
  clear hK K
  simp only [Act.put, List.setIfInBounds_toArray, List.set_cons_succ, List.set_cons_zero]
  refine wpQuiet_take (by rfl) (fun K hK => ⟨.string A1, fun w2' hw2 => ?_, hK _ ?_⟩)
  · go_simp
    go_at_call 55
    with_reducible refine (LF.out w2').mono ?_
    rintro e w5 ⟨rfl, hb5⟩
    exact ⟨rfl, hw2.trans (hb5.mono hw2.size)⟩
  clear hK K
  simp only [Act.put, List.setIfInBounds_toArray, List.set_cons_succ, List.set_cons_zero]
  refine wpQuiet_take (by rfl) (fun K hK => ⟨.pointer (some ⟨q, 1, none⟩), fun w2' hw2 => ?_, hK _ ?_⟩)
  · clear hw2; go_simp
  clear hK K
  simp only [Act.put, List.setIfInBounds_toArray, List.set_cons_succ, List.set_cons_zero]
  refine wpQuiet_take (by rfl) (fun K hK => ⟨.int .i64 v, fun w2' hw2 => ?_, hK _ ?_⟩)
  · obtain ⟨_, c, _, _, _, _, _, _, _, _⟩ := CX.out w2' (EX.out w2' hw2)
    clear hw2; go_simp
  clear hK K
  simp only [Act.put, List.setIfInBounds_toArray, List.set_cons_succ, List.set_cons_zero]
  refine wpQuiet_take (by rfl) (fun K hK => ⟨.string AV, fun w2' hw2 => ?_, hK _ ?_⟩)
  · go_simp
    go_at_call 55
    with_reducible refine (LV.out w2').mono ?_
    rintro e w5 ⟨rfl, hb5⟩
    exact ⟨rfl, hw2.trans (hb5.mono hw2.size)⟩
  clear hK K
  simp only [Act.put, List.setIfInBounds_toArray, List.set_cons_succ, List.set_cons_zero]
  refine wpQuiet_take (by rfl) (fun K hK => ⟨.string P1, fun w2' hw2 => ?_, hK _ ?_⟩)
  · clear hw2; go_simp
  clear hK K
  simp only [Act.put, List.setIfInBounds_toArray, List.set_cons_succ, List.set_cons_zero]
  refine wpQuiet_take (by rfl) (fun K hK => ⟨.agg #[.int .i64 0, .int .i64 v, .string D, .string S, .string T, .int .i64 l, .int .i64 N, .int .i64 (z : Int), .bool ph, .slice a n c], fun w2' hw2 => ?_, hK _ ?_⟩)
  · obtain ⟨c0, c1, c2, c3, c4, c5, c6, c7, c8, c9⟩ := CX.out w2' (EX.out w2' hw2)
    clear hw2; go_simp
  clear hK K
  simp only [Act.put, List.setIfInBounds_toArray, List.set_cons_succ, List.set_cons_zero]
  refine wpQuiet_take (by rfl) (fun K hK => ⟨.string NT, fun w2' hw2 => ?_, hK _ ?_⟩)
  · go_simp
    go_at_call 56
    with_reducible refine (NM.out w2').mono ?_
    rintro e w5 ⟨rfl, hb5⟩
    exact ⟨rfl, hw2.trans (hb5.mono hw2.size)⟩
  clear hK K
  simp only [Act.put, List.setIfInBounds_toArray, List.set_cons_succ, List.set_cons_zero]
  refine wpQuiet_take (by rfl) (fun K hK => ⟨.string P2, fun w2' hw2 => ?_, hK _ ?_⟩)
  · clear hw2; go_simp
  clear hK K
  simp only [Act.put, List.setIfInBounds_toArray, List.set_cons_succ, List.set_cons_zero]
  refine wpQuiet_take0 ?_
  intro w6 hb6
  have H6 := Lib.hid (EX.out w6 hb6)
  clear hb6
  clear c0 c1 c2 c3 c4 c5 c6 c7 c8 c9
  obtain ⟨c0, c1, c2, c3, c4, c5, c6, c7, c8, c9⟩ := CX.out w6 H6.out
  go_wp2_with fail
  with_reducible refine (DT.out _).mono ?_
  rintro e w9 ⟨rfl, hb9⟩
  have H9 := Lib.hid (H6.out.trans (hb9.mono H6.out.size))
  clear hb9 c0 c1 c2 c3 c4 c5 c6 c7 c8 c9
  obtain ⟨c0, c1, c2, c3, c4, c5, c6, c7, c8, c9⟩ := CX.out w9 H9.out
  go_wp2_with fail
  with_reducible refine (PI.out _).mono ?_
  rintro e w7 ⟨rfl, hb7⟩
  have H7 := Lib.hid (H9.out.trans (hb7.mono H9.out.size))
  clear hb7 c0 c1 c2 c3 c4 c5 c6 c7 c8 c9
  obtain ⟨c0, c1, c2, c3, c4, c5, c6, c7, c8, c9⟩ := CX.out w7 H7.out
  go_wp2_with fail
  with_reducible refine (LN.out _).mono ?_
  rintro e w8 ⟨rfl, hb8⟩
  have H8 := Lib.hid (H7.out.trans (hb8.mono H7.out.size))
  clear hb8 c0 c1 c2 c3 c4 c5 c6 c7 c8 c9
  go_wp2_with fail
  go_ret2
  exact ⟨rfl, RES.out w8 H8.out⟩
end Go.Proofs.YtcgbhcmgddgheaaDoor
