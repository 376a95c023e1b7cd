/-
  FRAMES: THE DOCUMENT's Right.
-/
import Derived.Test.YtcgbhcmgddgheabDoorFrPx
namespace Go.Proofs.YtcgbhcmgddgheabDoor
open Go Go.RowKit Go.BigFrame
set_option linter.unusedSimpArgs false
set_option linter.unusedVariables false
set_option maxRecDepth 100000
/-- A guarded operation's value. -/
def gv (x b : Bool) (v : Value) : Value := if x = b then v else undef
theorem gv_ff (v : Value) : gv false false v = v := rfl
theorem gv_tt (v : Value) : gv true true v = v := rfl
theorem not_f {x : Bool} (h : (!x) = false) : x = true := by cases x <;> simp_all
theorem em_f {h z : Bool} (e : (!h && z) = false) : h = true ∨ z = false := by cases h <;> simp_all
section
variable {P : Program} {ops : Array Oper} {Q : Exit → Act → World → Prop} {o : Oper} {rest : List Oper} {a : Act} {w : World} {v : Value} {x b : Bool}
/-- A guarded operation: its slot holds the value, if it is wanted. -/
theorem wpList_gval (hw : Region.wanted o (yielded ops a.tmps) = (x == b)) (hv : x = b → (execOp a.eval o).run P w = .ok (.value v) w) (h : wpList P ops Q rest (a.put o.dst (gv x b v)) w) : wpList P ops Q (o :: rest) a w := by
  by_cases hx : x = b
  · unfold gv at h; rw [if_pos hx] at h
    refine wpList_want (by rw [hw, hx]; simp) (fun K hK => ?_)
    unfold Oper.wp
    rw [hv hx]
    exact hK _ _ h
  · unfold gv at h; rw [if_neg hx] at h
    exact wpList_skip (by rw [hw]; exact beq_eq_false_iff_ne.2 hx) h
theorem wpList_gcall (fn : FuncId) (args : Array Value) (hw : Region.wanted o (yielded ops a.tmps) = (x == b)) (he : x = b → (execOp a.eval o).run P w = .ok (.enter fn args) w) (hc : Calls P fn args w fun e w' => e = .returned v ∧ w = w')
    (h : wpList P ops Q rest (a.put o.dst (gv x b v)) w) : wpList P ops Q (o :: rest) a w := by
  by_cases hx : x = b
  · unfold gv at h; rw [if_pos hx] at h
    refine wpList_want (by rw [hw, hx]; simp) (fun K hK => ?_)
    unfold Oper.wp
    rw [he hx]
    refine Calls.mono hc fun e w3 hx => ?_
    obtain ⟨rfl, rfl⟩ := hx
    exact hK _ _ h
  · unfold gv at h; rw [if_neg hx] at h
    exact wpList_skip (by rw [hw]; exact beq_eq_false_iff_ne.2 hx) h
theorem wpList_pcall (fn : FuncId) (args : Array Value) (hg : o.guard = none) (he : (execOp a.eval o).run P w = .ok (.enter fn args) w) (hc : Calls P fn args w fun e w' => e = .returned v ∧ w = w')
    (h : wpList P ops Q rest (a.put o.dst v) w) : wpList P ops Q (o :: rest) a w :=
  wpList_plain hg fun K hK => by
    unfold Oper.wp
    rw [he]
    refine Calls.mono hc fun e w3 hx => ?_
    obtain ⟨rfl, rfl⟩ := hx
    exact hK _ _ h
end
theorem wpQuiet_gval {P : Program} {ops : Array Oper} {C : World → Prop} {Q : Act → Prop} {o : Oper} {rest : List Oper} {a : Act} {v : Value} {x b : Bool} {n : Nat} (hw : Region.wanted o (yielded ops a.tmps) = (x == b)) (hv : x = b → ∀ w, C w → o.quietAt P a C w v)
    (h : wpQuiet P ops C Q (rest.take n) (a.put o.dst (gv x b v))) : wpQuiet P ops C Q ((o :: rest).take (n + 1)) a := by
  by_cases hx : x = b
  · unfold gv at h; rw [if_pos hx] at h
    exact wpQuiet_take (by rw [hw, hx]; simp) (fun K hK => ⟨v, fun w hc => hv hx w hc, hK _ h⟩)
  · unfold gv at h; rw [if_neg hx] at h
    rw [List.take_succ_cons]
    unfold wpQuiet
    rw [if_neg (by rw [hw]; simp [hx])]
    exact h
theorem or_false' {a b y : Bool} (h : (a || b) = y) (hy : y = false) : a = false ∧ b = false := by subst h; simpa using hy
theorem isE {D : ByteArray} : D.toList.isEmpty = decide (D.size = 0) := isEmpty_of rfl
theorem partsS_small (k : Int) : (partsS k).size ≤ 100 := by
  by_cases h0 : k = 0
  · subst h0; decide
  by_cases h1 : k = 1
  · subst h1; decide
  by_cases h30 : k = 30
  · subst h30; decide
  by_cases h2 : k = 2
  · subst h2; decide
  by_cases h4 : k = 4
  · subst h4; decide
  by_cases h5 : k = 5
  · subst h5; decide
  by_cases h6 : k = 6
  · subst h6; decide
  by_cases h7 : k = 7
  · subst h7; decide
  by_cases h8 : k = 8
  · subst h8; decide
  by_cases h16 : k = 16
  · subst h16; decide
  by_cases h20 : k = 20
  · subst h20; decide
  by_cases h25 : k = 25
  · subst h25; decide
  by_cases h18 : k = 18
  · subst h18; decide
  by_cases h22 : k = 22
  · subst h22; decide
  by_cases h17 : k = 17
  · subst h17; decide
  by_cases h21 : k = 21
  · subst h21; decide
  by_cases h24 : k = 24
  · subst h24; decide
  by_cases h26 : k = 26
  · subst h26; decide
  by_cases h27 : k = 27
  · subst h27; decide
  by_cases h28 : k = 28
  · subst h28; decide
  by_cases h29 : k = 29
  · subst h29; decide
  unfold partsS
  rw [if_neg h0, if_neg h1, if_neg h30, if_neg h2, if_neg h4, if_neg h5, if_neg h6, if_neg h7, if_neg h8, if_neg h16, if_neg h20, if_neg h25, if_neg h18, if_neg h22, if_neg h17, if_neg h21, if_neg h24, if_neg h26, if_neg h27, if_neg h28, if_neg h29]
  decide
theorem and_no {h z : Bool} (e : (!h && z) = false) (hh : ¬ h = true) : z = false := by cases h <;> simp_all
set_option maxHeartbeats 64000000 in
theorem right_front (K S O N C : Int) (F : Bool) (D X : ByteArray) (A : List (Int × Int)) (u : Value) (w : World) (hu : SpansIn w u A) (hDm : D.size ≤ maxLen) (hXm : X.size ≤ maxLen) :
    Calls Tryd.prog 16 #[.agg (frC K S O N C F D X u)] w fun e w' => e = .returned (.bool (putF ⟨K, S, O, N, C, F, D, X, A⟩).isSome) ∧ Below w.heap.size w w' := by
  obtain ⟨a, c, rfl, hc, hat⟩ := hu.at_
  obtain ⟨QQ, hQQ⟩ : ∃ Q, (putF ⟨K, S, O, N, C, F, D, X, A⟩).isSome = Q := ⟨_, rfl⟩
  rw [hQQ]
  have OK := Lib.hid (show QQ = true ↔ okD ⟨K, S, O, N, C, F, D, X, A⟩ from by rw [← hQQ]; exact ok_iff _)
  have HNO := Lib.hid (fun (h : ¬ okD ⟨K, S, O, N, C, F, D, X, A⟩) => (show QQ = false from by
    cases QQ with
    | false => rfl
    | true => exact absurd (OK.out.1 rfl) h))
  clear hQQ
  obtain ⟨m, hm⟩ : ∃ m, A.length = m := ⟨_, rfl⟩
  have hm63 : m ≤ 9223372036854775807 := by rw [← hm]; have := hc.1; have := hc.2; unfold maxLen at *; omega
  rw [hm] at hc ⊢
  have HM := Lib.hid hm
  have HAT := Lib.hid hat
  clear hm hat hu hc
  obtain ⟨d, hd⟩ : ∃ d, D.size = d := ⟨_, rfl⟩
  obtain ⟨xz, hxz⟩ : ∃ d, X.size = d := ⟨_, rfl⟩
  have hd63 : d ≤ 9223372036854775807 := by rw [← hd]; unfold maxLen at hDm; omega
  have hx63 : xz ≤ 9223372036854775807 := by rw [← hxz]; unfold maxLen at hXm; omega
  obtain ⟨zd, hzd⟩ : ∃ b, (!decide (d = 0)) = b := ⟨_, rfl⟩
  obtain ⟨zx, hzx⟩ : ∃ b, (!decide (xz = 0)) = b := ⟨_, rfl⟩
  obtain ⟨zs, hzs⟩ : ∃ b, (S != 0) = b := ⟨_, rfl⟩
  obtain ⟨zo, hzo⟩ : ∃ b, (O != 0) = b := ⟨_, rfl⟩
  obtain ⟨zn, hzn⟩ : ∃ b, (N != 0) = b := ⟨_, rfl⟩
  obtain ⟨zc, hzc⟩ : ∃ b, (C != 0) = b := ⟨_, rfl⟩
  obtain ⟨za, hza⟩ : ∃ b, (decide (0 < (m : Int))) = b := ⟨_, rfl⟩
  obtain ⟨bd, hbd⟩ : ∃ b, (decide (65535 < (d : Int))) = b := ⟨_, rfl⟩
  have hDe : D.toList.isEmpty = !zd := by rw [isE, hd, ← hzd]; simp
  have hXe : X.toList.isEmpty = !zx := by rw [isE, hxz, ← hzx]; simp
  obtain ⟨p, hp⟩ : ∃ p, partsS K = p := ⟨_, rfl⟩
  have hps : p.size ≤ 100 := by rw [← hp]; exact partsS_small K
  obtain ⟨pe, hpe⟩ : ∃ b, p.toList.isEmpty = b := ⟨_, rfl⟩
  have PE := Lib.hid (show pe = decide (p.size = 0) by rw [← hpe]; exact isE)
  obtain ⟨NS, hNS⟩ : ∃ b, decide (0 ≤ S ∧ S ≤ MX) = b := ⟨_, rfl⟩
  obtain ⟨NO, hNO⟩ : ∃ b, decide (0 ≤ O ∧ O ≤ MX) = b := ⟨_, rfl⟩
  obtain ⟨NN, hNN⟩ : ∃ b, decide (0 ≤ N ∧ N ≤ MX) = b := ⟨_, rfl⟩
  obtain ⟨NC, hNC⟩ : ∃ b, decide (0 ≤ C ∧ C ≤ MX) = b := ⟨_, rfl⟩
  obtain ⟨hsv, hhs⟩ : ∃ b, hasF p 115#8 = b := ⟨_, rfl⟩
  obtain ⟨hov, hho⟩ : ∃ b, hasF p 111#8 = b := ⟨_, rfl⟩
  obtain ⟨hnv, hhn⟩ : ∃ b, hasF p 110#8 = b := ⟨_, rfl⟩
  obtain ⟨hcv, hhc⟩ : ∃ b, hasF p 99#8 = b := ⟨_, rfl⟩
  obtain ⟨hdv, hhd⟩ : ∃ b, hasF p 100#8 = b := ⟨_, rfl⟩
  obtain ⟨hfv, hhf⟩ : ∃ b, hasF p 102#8 = b := ⟨_, rfl⟩
  obtain ⟨hxv, hhx⟩ : ∃ b, hasF p 120#8 = b := ⟨_, rfl⟩
  obtain ⟨hav, hha⟩ : ∃ b, hasF p 97#8 = b := ⟨_, rfl⟩
  have HBD := Lib.hid hbd
  have HDD := Lib.hid hd
  have HXX := Lib.hid hxz
  have HZD := Lib.hid hzd
  have HZX := Lib.hid hzx
  have HZS := Lib.hid hzs
  have HZO := Lib.hid hzo
  have HZN := Lib.hid hzn
  have HZC := Lib.hid hzc
  have HZA := Lib.hid hza
  have hza2 : decide (0 < m) = za := by rw [← hza]; exact decide_eq_decide.2 (by omega)
  unfold frC
  have row := heap_alloc_last w (.cells #[.int .i64 K, .int .i64 S, .int .i64 O, .int .i64 N, .int .i64 C, .bool F, .string D, .string X, .slice a m c] 24)
  have bel := (Below.refl w.heap.size w).alloc (Nat.le_refl _) (.cells #[.int .i64 K, .int .i64 S, .int .i64 O, .int .i64 N, .int .i64 C, .bool F, .string D, .string X, .slice a m c] 24)
  go_enter Tryd.func16, Tryd.ntmps16
  go_upto_region 1 with (fail)
  generalize w.alloc _ = wa at *
  generalize hq : w.heap.size = q at *
  obtain ⟨c0, c1, c2, c3, c4, c5, c6, c7, c8⟩ := cells9 row
  have B := Lib.hid bel
  have ROW := Lib.hid row
  have HQ := Lib.hid hq
  have PP := Lib.hid (parts_str K wa)
  rw [hp] at PP
  have HP := Lib.hid hp
  have CNS := Lib.hid (num_any S wa)
  rw [hNS] at CNS
  have HNS := Lib.hid hNS
  clear hNS
  have CNO := Lib.hid (num_any O wa)
  rw [hNO] at CNO
  have HNO' := Lib.hid hNO
  clear hNO
  have CNN := Lib.hid (num_any N wa)
  rw [hNN] at CNN
  have HNN := Lib.hid hNN
  clear hNN
  have CNC := Lib.hid (num_any C wa)
  rw [hNC] at CNC
  have HNC := Lib.hid hNC
  clear hNC
  have CHs := Lib.hid (has_any p 115#8 hps wa)
  rw [hhs, show n8 115#8 = 115 from by unfold n8; rfl] at CHs
  have HHs := Lib.hid hhs
  clear hhs
  have CHo := Lib.hid (has_any p 111#8 hps wa)
  rw [hho, show n8 111#8 = 111 from by unfold n8; rfl] at CHo
  have HHo := Lib.hid hho
  clear hho
  have CHn := Lib.hid (has_any p 110#8 hps wa)
  rw [hhn, show n8 110#8 = 110 from by unfold n8; rfl] at CHn
  have HHn := Lib.hid hhn
  clear hhn
  have CHc := Lib.hid (has_any p 99#8 hps wa)
  rw [hhc, show n8 99#8 = 99 from by unfold n8; rfl] at CHc
  have HHc := Lib.hid hhc
  clear hhc
  have CHd := Lib.hid (has_any p 100#8 hps wa)
  rw [hhd, show n8 100#8 = 100 from by unfold n8; rfl] at CHd
  have HHd := Lib.hid hhd
  clear hhd
  have CHf := Lib.hid (has_any p 102#8 hps wa)
  rw [hhf, show n8 102#8 = 102 from by unfold n8; rfl] at CHf
  have HHf := Lib.hid hhf
  clear hhf
  have CHx := Lib.hid (has_any p 120#8 hps wa)
  rw [hhx, show n8 120#8 = 120 from by unfold n8; rfl] at CHx
  have HHx := Lib.hid hhx
  clear hhx
  have CHa := Lib.hid (has_any p 97#8 hps wa)
  rw [hha, show n8 97#8 = 97 from by unfold n8; rfl] at CHa
  have HHa := Lib.hid hha
  clear hha
  clear row bel hq hp
  go_wp2_with fail
  with_reducible refine PP.out.mono ?_
  rintro e w' ⟨rfl, rfl⟩
  go_upto_region 2 with (fail)
  go_step
  refine wpList_run (v := .string p) (w' := wa) rfl (by go_simp) ?_
  simp only [Act.put, List.setIfInBounds_toArray, List.set_cons_succ, List.set_cons_zero]
  refine wpList_run (v := .bool pe) (w' := wa) rfl (by go_simp) ?_
  simp only [Act.put, List.setIfInBounds_toArray, List.set_cons_succ, List.set_cons_zero]
  refine wpList_run (v := .bool pe) (w' := wa) rfl (by go_simp) ?_
  simp only [Act.put, List.setIfInBounds_toArray, List.set_cons_succ, List.set_cons_zero]
  refine wpList_gval (x := pe) (b := false) (v := .pointer (some ⟨q, 1, none⟩)) (by cases pe <;> rfl) (fun hx => by cases pe <;> first | (exact absurd hx (by decide)) | (clear hx; (try simp only [gv_ff, gv_tt, Bool.not_true, Bool.not_false, Bool.and_true, Bool.true_and, Bool.and_self]); go_simp)) ?_
  simp only [Act.put, List.setIfInBounds_toArray, List.set_cons_succ, List.set_cons_zero]
  refine wpList_gval (x := pe) (b := false) (v := .int .i64 S) (by cases pe <;> rfl) (fun hx => by cases pe <;> first | (exact absurd hx (by decide)) | (clear hx; (try simp only [gv_ff, gv_tt, Bool.not_true, Bool.not_false, Bool.and_true, Bool.true_and, Bool.and_self]); go_simp)) ?_
  simp only [Act.put, List.setIfInBounds_toArray, List.set_cons_succ, List.set_cons_zero]
  refine wpList_gcall (x := pe) (b := false) (v := .bool NS) 28 #[.int .i64 S] (by cases pe <;> rfl) (fun hx => by cases pe <;> first | (exact absurd hx (by decide)) | (clear hx; (try simp only [gv_ff, gv_tt, Bool.not_true, Bool.not_false, Bool.and_true, Bool.true_and, Bool.and_self]); go_simp)) CNS.out ?_
  simp only [Act.put, List.setIfInBounds_toArray, List.set_cons_succ, List.set_cons_zero]
  refine wpList_gval (x := pe) (b := false) (v := .bool (!NS)) (by cases pe <;> rfl) (fun hx => by cases pe <;> first | (exact absurd hx (by decide)) | (clear hx; (try simp only [gv_ff, gv_tt, Bool.not_true, Bool.not_false, Bool.and_true, Bool.true_and, Bool.and_self]); go_simp)) ?_
  simp only [Act.put, List.setIfInBounds_toArray, List.set_cons_succ, List.set_cons_zero]
  refine wpList_run (v := .bool (pe || !NS)) (w' := wa) rfl (by cases pe <;> cases NS <;> (try simp only [gv_ff, gv_tt, Bool.not_true, Bool.not_false, Bool.and_true, Bool.true_and, Bool.and_self]) <;> go_simp) ?_
  simp only [Act.put, List.setIfInBounds_toArray, List.set_cons_succ, List.set_cons_zero]
  obtain ⟨y1, hy1⟩ : ∃ y, (pe || !NS) = y := ⟨_, rfl⟩
  rw [hy1]
  have HY1 := Lib.hid hy1
  clear hy1
  refine wpList_run (v := .bool y1) (w' := wa) rfl (by go_simp) ?_
  simp only [Act.put, List.setIfInBounds_toArray, List.set_cons_succ, List.set_cons_zero]
  refine wpList_gval (x := y1) (b := false) (v := .pointer (some ⟨q, 2, none⟩)) (by cases y1 <;> rfl) (fun hx => by cases y1 <;> first | (exact absurd hx (by decide)) | (clear hx; (try simp only [gv_ff, gv_tt, Bool.not_true, Bool.not_false, Bool.and_true, Bool.true_and, Bool.and_self]); go_simp)) ?_
  simp only [Act.put, List.setIfInBounds_toArray, List.set_cons_succ, List.set_cons_zero]
  refine wpList_gval (x := y1) (b := false) (v := .int .i64 O) (by cases y1 <;> rfl) (fun hx => by cases y1 <;> first | (exact absurd hx (by decide)) | (clear hx; (try simp only [gv_ff, gv_tt, Bool.not_true, Bool.not_false, Bool.and_true, Bool.true_and, Bool.and_self]); go_simp)) ?_
  simp only [Act.put, List.setIfInBounds_toArray, List.set_cons_succ, List.set_cons_zero]
  refine wpList_gcall (x := y1) (b := false) (v := .bool NO) 28 #[.int .i64 O] (by cases y1 <;> rfl) (fun hx => by cases y1 <;> first | (exact absurd hx (by decide)) | (clear hx; (try simp only [gv_ff, gv_tt, Bool.not_true, Bool.not_false, Bool.and_true, Bool.true_and, Bool.and_self]); go_simp)) CNO.out ?_
  simp only [Act.put, List.setIfInBounds_toArray, List.set_cons_succ, List.set_cons_zero]
  refine wpList_gval (x := y1) (b := false) (v := .bool (!NO)) (by cases y1 <;> rfl) (fun hx => by cases y1 <;> first | (exact absurd hx (by decide)) | (clear hx; (try simp only [gv_ff, gv_tt, Bool.not_true, Bool.not_false, Bool.and_true, Bool.true_and, Bool.and_self]); go_simp)) ?_
  simp only [Act.put, List.setIfInBounds_toArray, List.set_cons_succ, List.set_cons_zero]
  refine wpList_run (v := .bool (y1 || !NO)) (w' := wa) rfl (by cases y1 <;> cases NO <;> (try simp only [gv_ff, gv_tt, Bool.not_true, Bool.not_false, Bool.and_true, Bool.true_and, Bool.and_self]) <;> go_simp) ?_
  simp only [Act.put, List.setIfInBounds_toArray, List.set_cons_succ, List.set_cons_zero]
  obtain ⟨y2, hy2⟩ : ∃ y, (y1 || !NO) = y := ⟨_, rfl⟩
  rw [hy2]
  have HY2 := Lib.hid hy2
  clear hy2
  refine wpList_run (v := .bool y2) (w' := wa) rfl (by go_simp) ?_
  simp only [Act.put, List.setIfInBounds_toArray, List.set_cons_succ, List.set_cons_zero]
  refine wpList_gval (x := y2) (b := false) (v := .pointer (some ⟨q, 3, none⟩)) (by cases y2 <;> rfl) (fun hx => by cases y2 <;> first | (exact absurd hx (by decide)) | (clear hx; (try simp only [gv_ff, gv_tt, Bool.not_true, Bool.not_false, Bool.and_true, Bool.true_and, Bool.and_self]); go_simp)) ?_
  simp only [Act.put, List.setIfInBounds_toArray, List.set_cons_succ, List.set_cons_zero]
  refine wpList_gval (x := y2) (b := false) (v := .int .i64 N) (by cases y2 <;> rfl) (fun hx => by cases y2 <;> first | (exact absurd hx (by decide)) | (clear hx; (try simp only [gv_ff, gv_tt, Bool.not_true, Bool.not_false, Bool.and_true, Bool.true_and, Bool.and_self]); go_simp)) ?_
  simp only [Act.put, List.setIfInBounds_toArray, List.set_cons_succ, List.set_cons_zero]
  refine wpList_gcall (x := y2) (b := false) (v := .bool NN) 28 #[.int .i64 N] (by cases y2 <;> rfl) (fun hx => by cases y2 <;> first | (exact absurd hx (by decide)) | (clear hx; (try simp only [gv_ff, gv_tt, Bool.not_true, Bool.not_false, Bool.and_true, Bool.true_and, Bool.and_self]); go_simp)) CNN.out ?_
  simp only [Act.put, List.setIfInBounds_toArray, List.set_cons_succ, List.set_cons_zero]
  refine wpList_gval (x := y2) (b := false) (v := .bool (!NN)) (by cases y2 <;> rfl) (fun hx => by cases y2 <;> first | (exact absurd hx (by decide)) | (clear hx; (try simp only [gv_ff, gv_tt, Bool.not_true, Bool.not_false, Bool.and_true, Bool.true_and, Bool.and_self]); go_simp)) ?_
  simp only [Act.put, List.setIfInBounds_toArray, List.set_cons_succ, List.set_cons_zero]
  refine wpList_run (v := .bool (y2 || !NN)) (w' := wa) rfl (by cases y2 <;> cases NN <;> (try simp only [gv_ff, gv_tt, Bool.not_true, Bool.not_false, Bool.and_true, Bool.true_and, Bool.and_self]) <;> go_simp) ?_
  simp only [Act.put, List.setIfInBounds_toArray, List.set_cons_succ, List.set_cons_zero]
  obtain ⟨y3, hy3⟩ : ∃ y, (y2 || !NN) = y := ⟨_, rfl⟩
  rw [hy3]
  have HY3 := Lib.hid hy3
  clear hy3
  refine wpList_run (v := .bool y3) (w' := wa) rfl (by go_simp) ?_
  simp only [Act.put, List.setIfInBounds_toArray, List.set_cons_succ, List.set_cons_zero]
  refine wpList_gval (x := y3) (b := false) (v := .pointer (some ⟨q, 4, none⟩)) (by cases y3 <;> rfl) (fun hx => by cases y3 <;> first | (exact absurd hx (by decide)) | (clear hx; (try simp only [gv_ff, gv_tt, Bool.not_true, Bool.not_false, Bool.and_true, Bool.true_and, Bool.and_self]); go_simp)) ?_
  simp only [Act.put, List.setIfInBounds_toArray, List.set_cons_succ, List.set_cons_zero]
  refine wpList_gval (x := y3) (b := false) (v := .int .i64 C) (by cases y3 <;> rfl) (fun hx => by cases y3 <;> first | (exact absurd hx (by decide)) | (clear hx; (try simp only [gv_ff, gv_tt, Bool.not_true, Bool.not_false, Bool.and_true, Bool.true_and, Bool.and_self]); go_simp)) ?_
  simp only [Act.put, List.setIfInBounds_toArray, List.set_cons_succ, List.set_cons_zero]
  refine wpList_gcall (x := y3) (b := false) (v := .bool NC) 28 #[.int .i64 C] (by cases y3 <;> rfl) (fun hx => by cases y3 <;> first | (exact absurd hx (by decide)) | (clear hx; (try simp only [gv_ff, gv_tt, Bool.not_true, Bool.not_false, Bool.and_true, Bool.true_and, Bool.and_self]); go_simp)) CNC.out ?_
  simp only [Act.put, List.setIfInBounds_toArray, List.set_cons_succ, List.set_cons_zero]
  refine wpList_gval (x := y3) (b := false) (v := .bool (!NC)) (by cases y3 <;> rfl) (fun hx => by cases y3 <;> first | (exact absurd hx (by decide)) | (clear hx; (try simp only [gv_ff, gv_tt, Bool.not_true, Bool.not_false, Bool.and_true, Bool.true_and, Bool.and_self]); go_simp)) ?_
  simp only [Act.put, List.setIfInBounds_toArray, List.set_cons_succ, List.set_cons_zero]
  refine wpList_run (v := .bool (y3 || !NC)) (w' := wa) rfl (by cases y3 <;> cases NC <;> (try simp only [gv_ff, gv_tt, Bool.not_true, Bool.not_false, Bool.and_true, Bool.true_and, Bool.and_self]) <;> go_simp) ?_
  simp only [Act.put, List.setIfInBounds_toArray, List.set_cons_succ, List.set_cons_zero]
  obtain ⟨y4, hy4⟩ : ∃ y, (y3 || !NC) = y := ⟨_, rfl⟩
  rw [hy4]
  have HY4 := Lib.hid hy4
  clear hy4
  refine wpList_run (v := .bool y4) (w' := wa) rfl (by go_simp) ?_
  simp only [Act.put, List.setIfInBounds_toArray, List.set_cons_succ, List.set_cons_zero]
  refine wpList_gval (x := y4) (b := false) (v := .pointer (some ⟨q, 6, none⟩)) (by cases y4 <;> rfl) (fun hx => by cases y4 <;> first | (exact absurd hx (by decide)) | (clear hx; (try simp only [gv_ff, gv_tt, Bool.not_true, Bool.not_false, Bool.and_true, Bool.true_and, Bool.and_self]); go_simp)) ?_
  simp only [Act.put, List.setIfInBounds_toArray, List.set_cons_succ, List.set_cons_zero]
  refine wpList_gval (x := y4) (b := false) (v := .string D) (by cases y4 <;> rfl) (fun hx => by cases y4 <;> first | (exact absurd hx (by decide)) | (clear hx; (try simp only [gv_ff, gv_tt, Bool.not_true, Bool.not_false, Bool.and_true, Bool.true_and, Bool.and_self]); go_simp)) ?_
  simp only [Act.put, List.setIfInBounds_toArray, List.set_cons_succ, List.set_cons_zero]
  refine wpList_gval (x := y4) (b := false) (v := .int .i64 (d : Int)) (by cases y4 <;> rfl) (fun hx => by cases y4 <;> first | (exact absurd hx (by decide)) | (clear hx; (try simp only [gv_ff, gv_tt, Bool.not_true, Bool.not_false, Bool.and_true, Bool.true_and, Bool.and_self]); go_simp)) ?_
  simp only [Act.put, List.setIfInBounds_toArray, List.set_cons_succ, List.set_cons_zero]
  refine wpList_gval (x := y4) (b := false) (v := .bool bd) (by cases y4 <;> rfl) (fun hx => by cases y4 <;> first | (exact absurd hx (by decide)) | (clear hx; (try simp only [gv_ff, gv_tt, Bool.not_true, Bool.not_false, Bool.and_true, Bool.true_and, Bool.and_self]); go_simp)) ?_
  simp only [Act.put, List.setIfInBounds_toArray, List.set_cons_succ, List.set_cons_zero]
  refine wpList_run (v := .bool (y4 || bd)) (w' := wa) rfl (by cases y4 <;> cases bd <;> (try simp only [gv_ff, gv_tt, Bool.not_true, Bool.not_false, Bool.and_true, Bool.true_and, Bool.and_self]) <;> go_simp) ?_
  simp only [Act.put, List.setIfInBounds_toArray, List.set_cons_succ, List.set_cons_zero]
  obtain ⟨y5, hy5⟩ : ∃ y, (y4 || bd) = y := ⟨_, rfl⟩
  rw [hy5]
  have HY5 := Lib.hid hy5
  clear hy5
  have Y5F := Lib.hid (fun (ok : okD ⟨K, S, O, N, C, F, D, X, A⟩) => (show y5 = false from by
    obtain ⟨o1, ⟨o2, o3, o4, o5, o6⟩, _, _⟩ := ok
    have e1 : pe = false := by rw [PE.out]; exact decide_eq_false (by rw [← HP.out]; exact o1)
    have e2 : NS = true := by rw [← HNS.out]; exact decide_eq_true o2
    have e3 : NO = true := by rw [← HNO'.out]; exact decide_eq_true o3
    have e4 : NN = true := by rw [← HNN.out]; exact decide_eq_true o4
    have e5 : NC = true := by rw [← HNC.out]; exact decide_eq_true o5
    have e6 : bd = false := by rw [← HBD.out]; exact decide_eq_false (by have := HDD.out; have o6' : D.size ≤ 65535 := o6; omega)
    rw [← HY5.out, ← HY4.out, ← HY3.out, ← HY2.out, ← HY1.out, e1, e2, e3, e4, e5, e6]
    rfl))
  cases y5 with
  | true =>
    have R := Lib.hid (HNO.out (fun ok => by have := Y5F.out ok; cases this))
    go_wp2_with fail
    go_ret
    exact ⟨ret_bool R.out, by rw [HQ.out]; exact B.out⟩
  | false =>
  clear hbd
  go_upto_region 4 with (fail)
  go_step
  refine wpList_run (v := .string p) (w' := wa) rfl (by go_simp) ?_
  simp only [Act.put, List.setIfInBounds_toArray, List.set_cons_succ, List.set_cons_zero]
  refine wpList_pcall (v := .bool hsv) 29 #[.string p, .int .u8 115] rfl (by go_simp) CHs.out ?_
  simp only [Act.put, List.setIfInBounds_toArray, List.set_cons_succ, List.set_cons_zero]
  refine wpList_run (v := .bool (!hsv)) (w' := wa) rfl (by go_simp) ?_
  simp only [Act.put, List.setIfInBounds_toArray, List.set_cons_succ, List.set_cons_zero]
  refine wpList_run (v := .bool (!hsv)) (w' := wa) rfl (by go_simp) ?_
  simp only [Act.put, List.setIfInBounds_toArray, List.set_cons_succ, List.set_cons_zero]
  refine wpList_gval (x := (!hsv)) (b := true) (v := .pointer (some ⟨q, 1, none⟩)) (by cases hsv <;> rfl) (fun hx => by cases hsv <;> first | (exact absurd hx (by decide)) | (clear hx; (try simp only [gv_ff, gv_tt, Bool.not_true, Bool.not_false, Bool.and_true, Bool.true_and, Bool.and_self]); go_simp)) ?_
  simp only [Act.put, List.setIfInBounds_toArray, List.set_cons_succ, List.set_cons_zero]
  refine wpList_gval (x := (!hsv)) (b := true) (v := .int .i64 S) (by cases hsv <;> rfl) (fun hx => by cases hsv <;> first | (exact absurd hx (by decide)) | (clear hx; (try simp only [gv_ff, gv_tt, Bool.not_true, Bool.not_false, Bool.and_true, Bool.true_and, Bool.and_self]); go_simp)) ?_
  simp only [Act.put, List.setIfInBounds_toArray, List.set_cons_succ, List.set_cons_zero]
  refine wpList_gval (x := (!hsv)) (b := true) (v := .bool zs) (by cases hsv <;> rfl) (fun hx => by cases hsv <;> first | (exact absurd hx (by decide)) | (clear hx; (try simp only [gv_ff, gv_tt, Bool.not_true, Bool.not_false, Bool.and_true, Bool.true_and, Bool.and_self]); go_simp)) ?_
  simp only [Act.put, List.setIfInBounds_toArray, List.set_cons_succ, List.set_cons_zero]
  refine wpList_run (v := .bool (!hsv && zs)) (w' := wa) rfl (by cases hsv <;> cases zs <;> (try simp only [gv_ff, gv_tt, Bool.not_true, Bool.not_false, Bool.and_true, Bool.true_and, Bool.and_self]) <;> go_simp) ?_
  simp only [Act.put, List.setIfInBounds_toArray, List.set_cons_succ, List.set_cons_zero]
  obtain ⟨u1, hu1⟩ : ∃ y, (!hsv && zs) = y := ⟨_, rfl⟩
  rw [hu1]
  have HU1 := Lib.hid hu1
  clear hu1
  refine wpList_run (v := .bool u1) (w' := wa) rfl (by go_simp) ?_
  simp only [Act.put, List.setIfInBounds_toArray, List.set_cons_succ, List.set_cons_zero]
  refine wpList_gval (x := u1) (b := false) (v := .string p) (by cases u1 <;> rfl) (fun hx => by cases u1 <;> first | (exact absurd hx (by decide)) | (clear hx; (try simp only [gv_ff, gv_tt, Bool.not_true, Bool.not_false, Bool.and_true, Bool.true_and, Bool.and_self]); go_simp)) ?_
  simp only [Act.put, List.setIfInBounds_toArray, List.set_cons_succ, List.set_cons_zero]
  refine wpList_gcall (x := u1) (b := false) (v := .bool hov) 29 #[.string p, .int .u8 111] (by cases u1 <;> rfl) (fun hx => by cases u1 <;> first | (exact absurd hx (by decide)) | (clear hx; (try simp only [gv_ff, gv_tt, Bool.not_true, Bool.not_false, Bool.and_true, Bool.true_and, Bool.and_self]); go_simp)) CHo.out ?_
  simp only [Act.put, List.setIfInBounds_toArray, List.set_cons_succ, List.set_cons_zero]
  refine wpList_gval (x := u1) (b := false) (v := .bool (!hov)) (by cases u1 <;> rfl) (fun hx => by cases u1 <;> first | (exact absurd hx (by decide)) | (clear hx; (try simp only [gv_ff, gv_tt, Bool.not_true, Bool.not_false, Bool.and_true, Bool.true_and, Bool.and_self]); go_simp)) ?_
  simp only [Act.put, List.setIfInBounds_toArray, List.set_cons_succ, List.set_cons_zero]
  refine wpList_gval (x := u1) (b := false) (v := .bool (!hov)) (by cases u1 <;> rfl) (fun hx => by cases u1 <;> first | (exact absurd hx (by decide)) | (clear hx; (try simp only [gv_ff, gv_tt, Bool.not_true, Bool.not_false, Bool.and_true, Bool.true_and, Bool.and_self]); go_simp)) ?_
  simp only [Act.put, List.setIfInBounds_toArray, List.set_cons_succ, List.set_cons_zero]
  refine wpList_gval (x := (!u1 && !hov)) (b := true) (v := .pointer (some ⟨q, 2, none⟩)) (by cases u1 <;> cases hov <;> rfl) (fun hx => by cases u1 <;> cases hov <;> first | (exact absurd hx (by decide)) | (clear hx; (try simp only [gv_ff, gv_tt, Bool.not_true, Bool.not_false, Bool.and_true, Bool.true_and, Bool.and_self]); go_simp)) ?_
  simp only [Act.put, List.setIfInBounds_toArray, List.set_cons_succ, List.set_cons_zero]
  refine wpList_gval (x := (!u1 && !hov)) (b := true) (v := .int .i64 O) (by cases u1 <;> cases hov <;> rfl) (fun hx => by cases u1 <;> cases hov <;> first | (exact absurd hx (by decide)) | (clear hx; (try simp only [gv_ff, gv_tt, Bool.not_true, Bool.not_false, Bool.and_true, Bool.true_and, Bool.and_self]); go_simp)) ?_
  simp only [Act.put, List.setIfInBounds_toArray, List.set_cons_succ, List.set_cons_zero]
  refine wpList_gval (x := (!u1 && !hov)) (b := true) (v := .bool zo) (by cases u1 <;> cases hov <;> rfl) (fun hx => by cases u1 <;> cases hov <;> first | (exact absurd hx (by decide)) | (clear hx; (try simp only [gv_ff, gv_tt, Bool.not_true, Bool.not_false, Bool.and_true, Bool.true_and, Bool.and_self]); go_simp)) ?_
  simp only [Act.put, List.setIfInBounds_toArray, List.set_cons_succ, List.set_cons_zero]
  refine wpList_gval (x := u1) (b := false) (v := .bool (!hov && zo)) (by cases u1 <;> cases hov <;> cases zo <;> rfl) (fun hx => by cases u1 <;> cases hov <;> cases zo <;> first | (exact absurd hx (by decide)) | (clear hx; (try simp only [gv_ff, gv_tt, Bool.not_true, Bool.not_false, Bool.and_true, Bool.true_and, Bool.and_self]); go_simp)) ?_
  simp only [Act.put, List.setIfInBounds_toArray, List.set_cons_succ, List.set_cons_zero]
  refine wpList_run (v := .bool (u1 || (!hov && zo))) (w' := wa) rfl (by cases u1 <;> cases hov <;> cases zo <;> (try simp only [gv_ff, gv_tt, Bool.not_true, Bool.not_false, Bool.and_true, Bool.true_and, Bool.and_self]) <;> go_simp) ?_
  simp only [Act.put, List.setIfInBounds_toArray, List.set_cons_succ, List.set_cons_zero]
  obtain ⟨u2, hu2⟩ : ∃ y, (u1 || (!hov && zo)) = y := ⟨_, rfl⟩
  rw [hu2]
  have HU2 := Lib.hid hu2
  clear hu2
  refine wpList_run (v := .bool u2) (w' := wa) rfl (by go_simp) ?_
  simp only [Act.put, List.setIfInBounds_toArray, List.set_cons_succ, List.set_cons_zero]
  refine wpList_gval (x := u2) (b := false) (v := .string p) (by cases u2 <;> rfl) (fun hx => by cases u2 <;> first | (exact absurd hx (by decide)) | (clear hx; (try simp only [gv_ff, gv_tt, Bool.not_true, Bool.not_false, Bool.and_true, Bool.true_and, Bool.and_self]); go_simp)) ?_
  simp only [Act.put, List.setIfInBounds_toArray, List.set_cons_succ, List.set_cons_zero]
  refine wpList_gcall (x := u2) (b := false) (v := .bool hnv) 29 #[.string p, .int .u8 110] (by cases u2 <;> rfl) (fun hx => by cases u2 <;> first | (exact absurd hx (by decide)) | (clear hx; (try simp only [gv_ff, gv_tt, Bool.not_true, Bool.not_false, Bool.and_true, Bool.true_and, Bool.and_self]); go_simp)) CHn.out ?_
  simp only [Act.put, List.setIfInBounds_toArray, List.set_cons_succ, List.set_cons_zero]
  refine wpList_gval (x := u2) (b := false) (v := .bool (!hnv)) (by cases u2 <;> rfl) (fun hx => by cases u2 <;> first | (exact absurd hx (by decide)) | (clear hx; (try simp only [gv_ff, gv_tt, Bool.not_true, Bool.not_false, Bool.and_true, Bool.true_and, Bool.and_self]); go_simp)) ?_
  simp only [Act.put, List.setIfInBounds_toArray, List.set_cons_succ, List.set_cons_zero]
  refine wpList_gval (x := u2) (b := false) (v := .bool (!hnv)) (by cases u2 <;> rfl) (fun hx => by cases u2 <;> first | (exact absurd hx (by decide)) | (clear hx; (try simp only [gv_ff, gv_tt, Bool.not_true, Bool.not_false, Bool.and_true, Bool.true_and, Bool.and_self]); go_simp)) ?_
  simp only [Act.put, List.setIfInBounds_toArray, List.set_cons_succ, List.set_cons_zero]
  refine wpList_gval (x := (!u2 && !hnv)) (b := true) (v := .pointer (some ⟨q, 3, none⟩)) (by cases u2 <;> cases hnv <;> rfl) (fun hx => by cases u2 <;> cases hnv <;> first | (exact absurd hx (by decide)) | (clear hx; (try simp only [gv_ff, gv_tt, Bool.not_true, Bool.not_false, Bool.and_true, Bool.true_and, Bool.and_self]); go_simp)) ?_
  simp only [Act.put, List.setIfInBounds_toArray, List.set_cons_succ, List.set_cons_zero]
  refine wpList_gval (x := (!u2 && !hnv)) (b := true) (v := .int .i64 N) (by cases u2 <;> cases hnv <;> rfl) (fun hx => by cases u2 <;> cases hnv <;> first | (exact absurd hx (by decide)) | (clear hx; (try simp only [gv_ff, gv_tt, Bool.not_true, Bool.not_false, Bool.and_true, Bool.true_and, Bool.and_self]); go_simp)) ?_
  simp only [Act.put, List.setIfInBounds_toArray, List.set_cons_succ, List.set_cons_zero]
  refine wpList_gval (x := (!u2 && !hnv)) (b := true) (v := .bool zn) (by cases u2 <;> cases hnv <;> rfl) (fun hx => by cases u2 <;> cases hnv <;> first | (exact absurd hx (by decide)) | (clear hx; (try simp only [gv_ff, gv_tt, Bool.not_true, Bool.not_false, Bool.and_true, Bool.true_and, Bool.and_self]); go_simp)) ?_
  simp only [Act.put, List.setIfInBounds_toArray, List.set_cons_succ, List.set_cons_zero]
  refine wpList_gval (x := u2) (b := false) (v := .bool (!hnv && zn)) (by cases u2 <;> cases hnv <;> cases zn <;> rfl) (fun hx => by cases u2 <;> cases hnv <;> cases zn <;> first | (exact absurd hx (by decide)) | (clear hx; (try simp only [gv_ff, gv_tt, Bool.not_true, Bool.not_false, Bool.and_true, Bool.true_and, Bool.and_self]); go_simp)) ?_
  simp only [Act.put, List.setIfInBounds_toArray, List.set_cons_succ, List.set_cons_zero]
  refine wpList_run (v := .bool (u2 || (!hnv && zn))) (w' := wa) rfl (by cases u2 <;> cases hnv <;> cases zn <;> (try simp only [gv_ff, gv_tt, Bool.not_true, Bool.not_false, Bool.and_true, Bool.true_and, Bool.and_self]) <;> go_simp) ?_
  simp only [Act.put, List.setIfInBounds_toArray, List.set_cons_succ, List.set_cons_zero]
  obtain ⟨u3, hu3⟩ : ∃ y, (u2 || (!hnv && zn)) = y := ⟨_, rfl⟩
  rw [hu3]
  have HU3 := Lib.hid hu3
  clear hu3
  refine wpList_run (v := .bool u3) (w' := wa) rfl (by go_simp) ?_
  simp only [Act.put, List.setIfInBounds_toArray, List.set_cons_succ, List.set_cons_zero]
  refine wpList_gval (x := u3) (b := false) (v := .string p) (by cases u3 <;> rfl) (fun hx => by cases u3 <;> first | (exact absurd hx (by decide)) | (clear hx; (try simp only [gv_ff, gv_tt, Bool.not_true, Bool.not_false, Bool.and_true, Bool.true_and, Bool.and_self]); go_simp)) ?_
  simp only [Act.put, List.setIfInBounds_toArray, List.set_cons_succ, List.set_cons_zero]
  refine wpList_gcall (x := u3) (b := false) (v := .bool hcv) 29 #[.string p, .int .u8 99] (by cases u3 <;> rfl) (fun hx => by cases u3 <;> first | (exact absurd hx (by decide)) | (clear hx; (try simp only [gv_ff, gv_tt, Bool.not_true, Bool.not_false, Bool.and_true, Bool.true_and, Bool.and_self]); go_simp)) CHc.out ?_
  simp only [Act.put, List.setIfInBounds_toArray, List.set_cons_succ, List.set_cons_zero]
  refine wpList_gval (x := u3) (b := false) (v := .bool (!hcv)) (by cases u3 <;> rfl) (fun hx => by cases u3 <;> first | (exact absurd hx (by decide)) | (clear hx; (try simp only [gv_ff, gv_tt, Bool.not_true, Bool.not_false, Bool.and_true, Bool.true_and, Bool.and_self]); go_simp)) ?_
  simp only [Act.put, List.setIfInBounds_toArray, List.set_cons_succ, List.set_cons_zero]
  refine wpList_gval (x := u3) (b := false) (v := .bool (!hcv)) (by cases u3 <;> rfl) (fun hx => by cases u3 <;> first | (exact absurd hx (by decide)) | (clear hx; (try simp only [gv_ff, gv_tt, Bool.not_true, Bool.not_false, Bool.and_true, Bool.true_and, Bool.and_self]); go_simp)) ?_
  simp only [Act.put, List.setIfInBounds_toArray, List.set_cons_succ, List.set_cons_zero]
  refine wpList_gval (x := (!u3 && !hcv)) (b := true) (v := .pointer (some ⟨q, 4, none⟩)) (by cases u3 <;> cases hcv <;> rfl) (fun hx => by cases u3 <;> cases hcv <;> first | (exact absurd hx (by decide)) | (clear hx; (try simp only [gv_ff, gv_tt, Bool.not_true, Bool.not_false, Bool.and_true, Bool.true_and, Bool.and_self]); go_simp)) ?_
  simp only [Act.put, List.setIfInBounds_toArray, List.set_cons_succ, List.set_cons_zero]
  refine wpList_gval (x := (!u3 && !hcv)) (b := true) (v := .int .i64 C) (by cases u3 <;> cases hcv <;> rfl) (fun hx => by cases u3 <;> cases hcv <;> first | (exact absurd hx (by decide)) | (clear hx; (try simp only [gv_ff, gv_tt, Bool.not_true, Bool.not_false, Bool.and_true, Bool.true_and, Bool.and_self]); go_simp)) ?_
  simp only [Act.put, List.setIfInBounds_toArray, List.set_cons_succ, List.set_cons_zero]
  refine wpList_gval (x := (!u3 && !hcv)) (b := true) (v := .bool zc) (by cases u3 <;> cases hcv <;> rfl) (fun hx => by cases u3 <;> cases hcv <;> first | (exact absurd hx (by decide)) | (clear hx; (try simp only [gv_ff, gv_tt, Bool.not_true, Bool.not_false, Bool.and_true, Bool.true_and, Bool.and_self]); go_simp)) ?_
  simp only [Act.put, List.setIfInBounds_toArray, List.set_cons_succ, List.set_cons_zero]
  refine wpList_gval (x := u3) (b := false) (v := .bool (!hcv && zc)) (by cases u3 <;> cases hcv <;> cases zc <;> rfl) (fun hx => by cases u3 <;> cases hcv <;> cases zc <;> first | (exact absurd hx (by decide)) | (clear hx; (try simp only [gv_ff, gv_tt, Bool.not_true, Bool.not_false, Bool.and_true, Bool.true_and, Bool.and_self]); go_simp)) ?_
  simp only [Act.put, List.setIfInBounds_toArray, List.set_cons_succ, List.set_cons_zero]
  refine wpList_run (v := .bool (u3 || (!hcv && zc))) (w' := wa) rfl (by cases u3 <;> cases hcv <;> cases zc <;> (try simp only [gv_ff, gv_tt, Bool.not_true, Bool.not_false, Bool.and_true, Bool.true_and, Bool.and_self]) <;> go_simp) ?_
  simp only [Act.put, List.setIfInBounds_toArray, List.set_cons_succ, List.set_cons_zero]
  obtain ⟨u4, hu4⟩ : ∃ y, (u3 || (!hcv && zc)) = y := ⟨_, rfl⟩
  rw [hu4]
  have HU4 := Lib.hid hu4
  clear hu4
  refine wpList_run (v := .bool u4) (w' := wa) rfl (by go_simp) ?_
  simp only [Act.put, List.setIfInBounds_toArray, List.set_cons_succ, List.set_cons_zero]
  refine wpList_gval (x := u4) (b := false) (v := .string p) (by cases u4 <;> rfl) (fun hx => by cases u4 <;> first | (exact absurd hx (by decide)) | (clear hx; (try simp only [gv_ff, gv_tt, Bool.not_true, Bool.not_false, Bool.and_true, Bool.true_and, Bool.and_self]); go_simp)) ?_
  simp only [Act.put, List.setIfInBounds_toArray, List.set_cons_succ, List.set_cons_zero]
  refine wpList_gcall (x := u4) (b := false) (v := .bool hdv) 29 #[.string p, .int .u8 100] (by cases u4 <;> rfl) (fun hx => by cases u4 <;> first | (exact absurd hx (by decide)) | (clear hx; (try simp only [gv_ff, gv_tt, Bool.not_true, Bool.not_false, Bool.and_true, Bool.true_and, Bool.and_self]); go_simp)) CHd.out ?_
  simp only [Act.put, List.setIfInBounds_toArray, List.set_cons_succ, List.set_cons_zero]
  refine wpList_gval (x := u4) (b := false) (v := .bool (!hdv)) (by cases u4 <;> rfl) (fun hx => by cases u4 <;> first | (exact absurd hx (by decide)) | (clear hx; (try simp only [gv_ff, gv_tt, Bool.not_true, Bool.not_false, Bool.and_true, Bool.true_and, Bool.and_self]); go_simp)) ?_
  simp only [Act.put, List.setIfInBounds_toArray, List.set_cons_succ, List.set_cons_zero]
  refine wpList_gval (x := u4) (b := false) (v := .bool (!hdv)) (by cases u4 <;> rfl) (fun hx => by cases u4 <;> first | (exact absurd hx (by decide)) | (clear hx; (try simp only [gv_ff, gv_tt, Bool.not_true, Bool.not_false, Bool.and_true, Bool.true_and, Bool.and_self]); go_simp)) ?_
  simp only [Act.put, List.setIfInBounds_toArray, List.set_cons_succ, List.set_cons_zero]
  refine wpList_gval (x := (!u4 && !hdv)) (b := true) (v := .pointer (some ⟨q, 6, none⟩)) (by cases u4 <;> cases hdv <;> rfl) (fun hx => by cases u4 <;> cases hdv <;> first | (exact absurd hx (by decide)) | (clear hx; (try simp only [gv_ff, gv_tt, Bool.not_true, Bool.not_false, Bool.and_true, Bool.true_and, Bool.and_self]); go_simp)) ?_
  simp only [Act.put, List.setIfInBounds_toArray, List.set_cons_succ, List.set_cons_zero]
  refine wpList_gval (x := (!u4 && !hdv)) (b := true) (v := .string D) (by cases u4 <;> cases hdv <;> rfl) (fun hx => by cases u4 <;> cases hdv <;> first | (exact absurd hx (by decide)) | (clear hx; (try simp only [gv_ff, gv_tt, Bool.not_true, Bool.not_false, Bool.and_true, Bool.true_and, Bool.and_self]); go_simp)) ?_
  simp only [Act.put, List.setIfInBounds_toArray, List.set_cons_succ, List.set_cons_zero]
  refine wpList_gval (x := (!u4 && !hdv)) (b := true) (v := .bool zd) (by cases u4 <;> cases hdv <;> rfl) (fun hx => by cases u4 <;> cases hdv <;> first | (exact absurd hx (by decide)) | (clear hx; (try simp only [gv_ff, gv_tt, Bool.not_true, Bool.not_false, Bool.and_true, Bool.true_and, Bool.and_self]); go_simp)) ?_
  simp only [Act.put, List.setIfInBounds_toArray, List.set_cons_succ, List.set_cons_zero]
  refine wpList_gval (x := u4) (b := false) (v := .bool (!hdv && zd)) (by cases u4 <;> cases hdv <;> cases zd <;> rfl) (fun hx => by cases u4 <;> cases hdv <;> cases zd <;> first | (exact absurd hx (by decide)) | (clear hx; (try simp only [gv_ff, gv_tt, Bool.not_true, Bool.not_false, Bool.and_true, Bool.true_and, Bool.and_self]); go_simp)) ?_
  simp only [Act.put, List.setIfInBounds_toArray, List.set_cons_succ, List.set_cons_zero]
  refine wpList_run (v := .bool (u4 || (!hdv && zd))) (w' := wa) rfl (by cases u4 <;> cases hdv <;> cases zd <;> (try simp only [gv_ff, gv_tt, Bool.not_true, Bool.not_false, Bool.and_true, Bool.true_and, Bool.and_self]) <;> go_simp) ?_
  simp only [Act.put, List.setIfInBounds_toArray, List.set_cons_succ, List.set_cons_zero]
  obtain ⟨u5, hu5⟩ : ∃ y, (u4 || (!hdv && zd)) = y := ⟨_, rfl⟩
  rw [hu5]
  have HU5 := Lib.hid hu5
  clear hu5
  refine wpList_run (v := .bool u5) (w' := wa) rfl (by go_simp) ?_
  simp only [Act.put, List.setIfInBounds_toArray, List.set_cons_succ, List.set_cons_zero]
  refine wpList_gval (x := u5) (b := false) (v := .string p) (by cases u5 <;> rfl) (fun hx => by cases u5 <;> first | (exact absurd hx (by decide)) | (clear hx; (try simp only [gv_ff, gv_tt, Bool.not_true, Bool.not_false, Bool.and_true, Bool.true_and, Bool.and_self]); go_simp)) ?_
  simp only [Act.put, List.setIfInBounds_toArray, List.set_cons_succ, List.set_cons_zero]
  refine wpList_gcall (x := u5) (b := false) (v := .bool hfv) 29 #[.string p, .int .u8 102] (by cases u5 <;> rfl) (fun hx => by cases u5 <;> first | (exact absurd hx (by decide)) | (clear hx; (try simp only [gv_ff, gv_tt, Bool.not_true, Bool.not_false, Bool.and_true, Bool.true_and, Bool.and_self]); go_simp)) CHf.out ?_
  simp only [Act.put, List.setIfInBounds_toArray, List.set_cons_succ, List.set_cons_zero]
  refine wpList_gval (x := u5) (b := false) (v := .bool (!hfv)) (by cases u5 <;> rfl) (fun hx => by cases u5 <;> first | (exact absurd hx (by decide)) | (clear hx; (try simp only [gv_ff, gv_tt, Bool.not_true, Bool.not_false, Bool.and_true, Bool.true_and, Bool.and_self]); go_simp)) ?_
  simp only [Act.put, List.setIfInBounds_toArray, List.set_cons_succ, List.set_cons_zero]
  refine wpList_gval (x := u5) (b := false) (v := .bool (!hfv)) (by cases u5 <;> rfl) (fun hx => by cases u5 <;> first | (exact absurd hx (by decide)) | (clear hx; (try simp only [gv_ff, gv_tt, Bool.not_true, Bool.not_false, Bool.and_true, Bool.true_and, Bool.and_self]); go_simp)) ?_
  simp only [Act.put, List.setIfInBounds_toArray, List.set_cons_succ, List.set_cons_zero]
  refine wpList_gval (x := (!u5 && !hfv)) (b := true) (v := .pointer (some ⟨q, 5, none⟩)) (by cases u5 <;> cases hfv <;> rfl) (fun hx => by cases u5 <;> cases hfv <;> first | (exact absurd hx (by decide)) | (clear hx; (try simp only [gv_ff, gv_tt, Bool.not_true, Bool.not_false, Bool.and_true, Bool.true_and, Bool.and_self]); go_simp)) ?_
  simp only [Act.put, List.setIfInBounds_toArray, List.set_cons_succ, List.set_cons_zero]
  refine wpList_gval (x := (!u5 && !hfv)) (b := true) (v := .bool F) (by cases u5 <;> cases hfv <;> rfl) (fun hx => by cases u5 <;> cases hfv <;> first | (exact absurd hx (by decide)) | (clear hx; (try simp only [gv_ff, gv_tt, Bool.not_true, Bool.not_false, Bool.and_true, Bool.true_and, Bool.and_self]); go_simp)) ?_
  simp only [Act.put, List.setIfInBounds_toArray, List.set_cons_succ, List.set_cons_zero]
  refine wpList_gval (x := u5) (b := false) (v := .bool (!hfv && F)) (by cases u5 <;> cases hfv <;> cases F <;> rfl) (fun hx => by cases u5 <;> cases hfv <;> cases F <;> first | (exact absurd hx (by decide)) | (clear hx; (try simp only [gv_ff, gv_tt, Bool.not_true, Bool.not_false, Bool.and_true, Bool.true_and, Bool.and_self]); go_simp)) ?_
  simp only [Act.put, List.setIfInBounds_toArray, List.set_cons_succ, List.set_cons_zero]
  refine wpList_run (v := .bool (u5 || (!hfv && F))) (w' := wa) rfl (by cases u5 <;> cases hfv <;> cases F <;> (try simp only [gv_ff, gv_tt, Bool.not_true, Bool.not_false, Bool.and_true, Bool.true_and, Bool.and_self]) <;> go_simp) ?_
  simp only [Act.put, List.setIfInBounds_toArray, List.set_cons_succ, List.set_cons_zero]
  obtain ⟨u6, hu6⟩ : ∃ y, (u5 || (!hfv && F)) = y := ⟨_, rfl⟩
  rw [hu6]
  have HU6 := Lib.hid hu6
  clear hu6
  refine wpList_run (v := .bool u6) (w' := wa) rfl (by go_simp) ?_
  simp only [Act.put, List.setIfInBounds_toArray, List.set_cons_succ, List.set_cons_zero]
  refine wpList_gval (x := u6) (b := false) (v := .string p) (by cases u6 <;> rfl) (fun hx => by cases u6 <;> first | (exact absurd hx (by decide)) | (clear hx; (try simp only [gv_ff, gv_tt, Bool.not_true, Bool.not_false, Bool.and_true, Bool.true_and, Bool.and_self]); go_simp)) ?_
  simp only [Act.put, List.setIfInBounds_toArray, List.set_cons_succ, List.set_cons_zero]
  refine wpList_gcall (x := u6) (b := false) (v := .bool hxv) 29 #[.string p, .int .u8 120] (by cases u6 <;> rfl) (fun hx => by cases u6 <;> first | (exact absurd hx (by decide)) | (clear hx; (try simp only [gv_ff, gv_tt, Bool.not_true, Bool.not_false, Bool.and_true, Bool.true_and, Bool.and_self]); go_simp)) CHx.out ?_
  simp only [Act.put, List.setIfInBounds_toArray, List.set_cons_succ, List.set_cons_zero]
  refine wpList_gval (x := u6) (b := false) (v := .bool (!hxv)) (by cases u6 <;> rfl) (fun hx => by cases u6 <;> first | (exact absurd hx (by decide)) | (clear hx; (try simp only [gv_ff, gv_tt, Bool.not_true, Bool.not_false, Bool.and_true, Bool.true_and, Bool.and_self]); go_simp)) ?_
  simp only [Act.put, List.setIfInBounds_toArray, List.set_cons_succ, List.set_cons_zero]
  refine wpList_gval (x := u6) (b := false) (v := .bool (!hxv)) (by cases u6 <;> rfl) (fun hx => by cases u6 <;> first | (exact absurd hx (by decide)) | (clear hx; (try simp only [gv_ff, gv_tt, Bool.not_true, Bool.not_false, Bool.and_true, Bool.true_and, Bool.and_self]); go_simp)) ?_
  simp only [Act.put, List.setIfInBounds_toArray, List.set_cons_succ, List.set_cons_zero]
  refine wpList_gval (x := (!u6 && !hxv)) (b := true) (v := .pointer (some ⟨q, 7, none⟩)) (by cases u6 <;> cases hxv <;> rfl) (fun hx => by cases u6 <;> cases hxv <;> first | (exact absurd hx (by decide)) | (clear hx; (try simp only [gv_ff, gv_tt, Bool.not_true, Bool.not_false, Bool.and_true, Bool.true_and, Bool.and_self]); go_simp)) ?_
  simp only [Act.put, List.setIfInBounds_toArray, List.set_cons_succ, List.set_cons_zero]
  refine wpList_gval (x := (!u6 && !hxv)) (b := true) (v := .string X) (by cases u6 <;> cases hxv <;> rfl) (fun hx => by cases u6 <;> cases hxv <;> first | (exact absurd hx (by decide)) | (clear hx; (try simp only [gv_ff, gv_tt, Bool.not_true, Bool.not_false, Bool.and_true, Bool.true_and, Bool.and_self]); go_simp)) ?_
  simp only [Act.put, List.setIfInBounds_toArray, List.set_cons_succ, List.set_cons_zero]
  refine wpList_gval (x := (!u6 && !hxv)) (b := true) (v := .bool zx) (by cases u6 <;> cases hxv <;> rfl) (fun hx => by cases u6 <;> cases hxv <;> first | (exact absurd hx (by decide)) | (clear hx; (try simp only [gv_ff, gv_tt, Bool.not_true, Bool.not_false, Bool.and_true, Bool.true_and, Bool.and_self]); go_simp)) ?_
  simp only [Act.put, List.setIfInBounds_toArray, List.set_cons_succ, List.set_cons_zero]
  refine wpList_gval (x := u6) (b := false) (v := .bool (!hxv && zx)) (by cases u6 <;> cases hxv <;> cases zx <;> rfl) (fun hx => by cases u6 <;> cases hxv <;> cases zx <;> first | (exact absurd hx (by decide)) | (clear hx; (try simp only [gv_ff, gv_tt, Bool.not_true, Bool.not_false, Bool.and_true, Bool.true_and, Bool.and_self]); go_simp)) ?_
  simp only [Act.put, List.setIfInBounds_toArray, List.set_cons_succ, List.set_cons_zero]
  refine wpList_run (v := .bool (u6 || (!hxv && zx))) (w' := wa) rfl (by cases u6 <;> cases hxv <;> cases zx <;> (try simp only [gv_ff, gv_tt, Bool.not_true, Bool.not_false, Bool.and_true, Bool.true_and, Bool.and_self]) <;> go_simp) ?_
  simp only [Act.put, List.setIfInBounds_toArray, List.set_cons_succ, List.set_cons_zero]
  obtain ⟨u7, hu7⟩ : ∃ y, (u6 || (!hxv && zx)) = y := ⟨_, rfl⟩
  rw [hu7]
  have HU7 := Lib.hid hu7
  clear hu7
  refine wpList_run (v := .bool u7) (w' := wa) rfl (by go_simp) ?_
  simp only [Act.put, List.setIfInBounds_toArray, List.set_cons_succ, List.set_cons_zero]
  refine wpList_gval (x := u7) (b := false) (v := .string p) (by cases u7 <;> rfl) (fun hx => by cases u7 <;> first | (exact absurd hx (by decide)) | (clear hx; (try simp only [gv_ff, gv_tt, Bool.not_true, Bool.not_false, Bool.and_true, Bool.true_and, Bool.and_self]); go_simp)) ?_
  simp only [Act.put, List.setIfInBounds_toArray, List.set_cons_succ, List.set_cons_zero]
  refine wpList_gcall (x := u7) (b := false) (v := .bool hav) 29 #[.string p, .int .u8 97] (by cases u7 <;> rfl) (fun hx => by cases u7 <;> first | (exact absurd hx (by decide)) | (clear hx; (try simp only [gv_ff, gv_tt, Bool.not_true, Bool.not_false, Bool.and_true, Bool.true_and, Bool.and_self]); go_simp)) CHa.out ?_
  simp only [Act.put, List.setIfInBounds_toArray, List.set_cons_succ, List.set_cons_zero]
  refine wpList_gval (x := u7) (b := false) (v := .bool (!hav)) (by cases u7 <;> rfl) (fun hx => by cases u7 <;> first | (exact absurd hx (by decide)) | (clear hx; (try simp only [gv_ff, gv_tt, Bool.not_true, Bool.not_false, Bool.and_true, Bool.true_and, Bool.and_self]); go_simp)) ?_
  simp only [Act.put, List.setIfInBounds_toArray, List.set_cons_succ, List.set_cons_zero]
  refine wpList_gval (x := u7) (b := false) (v := .bool (!hav)) (by cases u7 <;> rfl) (fun hx => by cases u7 <;> first | (exact absurd hx (by decide)) | (clear hx; (try simp only [gv_ff, gv_tt, Bool.not_true, Bool.not_false, Bool.and_true, Bool.true_and, Bool.and_self]); go_simp)) ?_
  simp only [Act.put, List.setIfInBounds_toArray, List.set_cons_succ, List.set_cons_zero]
  refine wpList_gval (x := (!u7 && !hav)) (b := true) (v := .pointer (some ⟨q, 8, none⟩)) (by cases u7 <;> cases hav <;> rfl) (fun hx => by cases u7 <;> cases hav <;> first | (exact absurd hx (by decide)) | (clear hx; (try simp only [gv_ff, gv_tt, Bool.not_true, Bool.not_false, Bool.and_true, Bool.true_and, Bool.and_self]); go_simp)) ?_
  simp only [Act.put, List.setIfInBounds_toArray, List.set_cons_succ, List.set_cons_zero]
  refine wpList_gval (x := (!u7 && !hav)) (b := true) (v := .slice a m c) (by cases u7 <;> cases hav <;> rfl) (fun hx => by cases u7 <;> cases hav <;> first | (exact absurd hx (by decide)) | (clear hx; (try simp only [gv_ff, gv_tt, Bool.not_true, Bool.not_false, Bool.and_true, Bool.true_and, Bool.and_self]); go_simp)) ?_
  simp only [Act.put, List.setIfInBounds_toArray, List.set_cons_succ, List.set_cons_zero]
  refine wpList_gval (x := (!u7 && !hav)) (b := true) (v := .int .i64 (m : Int)) (by cases u7 <;> cases hav <;> rfl) (fun hx => by cases u7 <;> cases hav <;> first | (exact absurd hx (by decide)) | (clear hx; (try simp only [gv_ff, gv_tt, Bool.not_true, Bool.not_false, Bool.and_true, Bool.true_and, Bool.and_self]); go_simp)) ?_
  simp only [Act.put, List.setIfInBounds_toArray, List.set_cons_succ, List.set_cons_zero]
  refine wpList_gval (x := (!u7 && !hav)) (b := true) (v := .bool za) (by cases u7 <;> cases hav <;> rfl) (fun hx => by cases u7 <;> cases hav <;> first | (exact absurd hx (by decide)) | (clear hx; (try simp only [gv_ff, gv_tt, Bool.not_true, Bool.not_false, Bool.and_true, Bool.true_and, Bool.and_self]); go_simp)) ?_
  simp only [Act.put, List.setIfInBounds_toArray, List.set_cons_succ, List.set_cons_zero]
  refine wpList_gval (x := u7) (b := false) (v := .bool (!hav && za)) (by cases u7 <;> cases hav <;> cases za <;> rfl) (fun hx => by cases u7 <;> cases hav <;> cases za <;> first | (exact absurd hx (by decide)) | (clear hx; (try simp only [gv_ff, gv_tt, Bool.not_true, Bool.not_false, Bool.and_true, Bool.true_and, Bool.and_self]); go_simp)) ?_
  simp only [Act.put, List.setIfInBounds_toArray, List.set_cons_succ, List.set_cons_zero]
  refine wpList_run (v := .bool (u7 || (!hav && za))) (w' := wa) rfl (by cases u7 <;> cases hav <;> cases za <;> (try simp only [gv_ff, gv_tt, Bool.not_true, Bool.not_false, Bool.and_true, Bool.true_and, Bool.and_self]) <;> go_simp) ?_
  simp only [Act.put, List.setIfInBounds_toArray, List.set_cons_succ, List.set_cons_zero]
  obtain ⟨u8, hu8⟩ : ∃ y, (u7 || (!hav && za)) = y := ⟨_, rfl⟩
  rw [hu8]
  have HU8 := Lib.hid hu8
  clear hu8
  have U8F := Lib.hid (fun (ok : okD ⟨K, S, O, N, C, F, D, X, A⟩) => (show u8 = false from by
    obtain ⟨_, _, ⟨g1, g2, g3, g4, g5, g6, g7, g8⟩, _⟩ := ok
    dsimp only at g1 g2 g3 g4 g5 g6 g7 g8
    rw [HP.out] at g1 g2 g3 g4 g5 g6 g7 g8
    rw [HHs.out] at g1
    rw [HHo.out] at g2
    rw [HHn.out] at g3
    rw [HHc.out] at g4
    rw [HHd.out] at g5
    rw [HHf.out] at g6
    rw [HHx.out] at g7
    rw [HHa.out] at g8
    have k1 : (!hsv && zs) = false := by rcases g1 with h | h; · rw [h]; rfl
                                         · rw [← HZS.out, h]; cases hsv <;> rfl
    have k2 : (!hov && zo) = false := by rcases g2 with h | h; · rw [h]; rfl
                                         · rw [← HZO.out, h]; cases hov <;> rfl
    have k3 : (!hnv && zn) = false := by rcases g3 with h | h; · rw [h]; rfl
                                         · rw [← HZN.out, h]; cases hnv <;> rfl
    have k4 : (!hcv && zc) = false := by rcases g4 with h | h; · rw [h]; rfl
                                         · rw [← HZC.out, h]; cases hcv <;> rfl
    have k5 : (!hdv && zd) = false := by rcases g5 with h | h; · rw [h]; rfl
                                         · rw [← HZD.out, ← HDD.out, h]; cases hdv <;> rfl
    have k6 : (!hfv && F) = false := by rcases g6 with h | h; · rw [h]; rfl
                                        · rw [h]; cases hfv <;> rfl
    have k7 : (!hxv && zx) = false := by rcases g7 with h | h; · rw [h]; rfl
                                         · rw [← HZX.out, ← HXX.out, h]; cases hxv <;> rfl
    have k8 : (!hav && za) = false := by rcases g8 with h | h; · rw [h]; rfl
                                         · rw [← HZA.out, ← HM.out, h]; cases hav <;> rfl
    rw [← HU8.out, ← HU7.out, ← HU6.out, ← HU5.out, ← HU4.out, ← HU3.out, ← HU2.out, ← HU1.out, k1, k2, k3, k4, k5, k6, k7, k8]
    rfl))
  cases u8 with
  | true =>
    have R := Lib.hid (HNO.out (fun ok => by have := U8F.out ok; cases this))
    go_wp2_with fail
    go_ret
    exact ⟨ret_bool R.out, by rw [HQ.out]; exact B.out⟩
  | false =>
  have LAST := Lib.hid (fun (hl : lastD ⟨K, S, O, N, C, F, D, X, A⟩) => (show QQ = true from by
    refine OK.out.2 ⟨?_, ?_, ?_, hl⟩
    · obtain ⟨j4, _⟩ := or_false' HY5.out rfl
      obtain ⟨j3, _⟩ := or_false' HY4.out j4
      obtain ⟨j2, _⟩ := or_false' HY3.out j3
      obtain ⟨j1, _⟩ := or_false' HY2.out j2
      obtain ⟨j0, _⟩ := or_false' HY1.out j1
      rw [PE.out] at j0
      show (partsS K).size ≠ 0
      rw [HP.out]; exact of_decide_eq_false j0
    · obtain ⟨j4, i5⟩ := or_false' HY5.out rfl
      obtain ⟨j3, i4⟩ := or_false' HY4.out j4
      obtain ⟨j2, i3⟩ := or_false' HY3.out j3
      obtain ⟨j1, i2⟩ := or_false' HY2.out j2
      obtain ⟨_, i1⟩ := or_false' HY1.out j1
      refine ⟨of_decide_eq_true (HNS.out.trans (not_f i1)), of_decide_eq_true (HNO'.out.trans (not_f i2)), of_decide_eq_true (HNN.out.trans (not_f i3)), of_decide_eq_true (HNC.out.trans (not_f i4)), ?_⟩
      have h := of_decide_eq_false (HBD.out.trans i5)
      show D.size ≤ 65535
      have := HDD.out
      omega
    · obtain ⟨j7, i8⟩ := or_false' HU8.out rfl
      obtain ⟨j6, i7⟩ := or_false' HU7.out j7
      obtain ⟨j5, i6⟩ := or_false' HU6.out j6
      obtain ⟨j4, i5⟩ := or_false' HU5.out j5
      obtain ⟨j3, i4⟩ := or_false' HU4.out j4
      obtain ⟨j2, i3⟩ := or_false' HU3.out j3
      obtain ⟨i1, i2⟩ := or_false' HU2.out j2
      rw [← HU1.out] at i1
      refine ⟨?_, ?_, ?_, ?_, ?_, ?_, ?_, ?_⟩ <;> dsimp only <;> try rw [HP.out]
      · rw [HHs.out]; exact (em_f i1).imp id (fun h => by rw [← HZS.out] at h; simpa using h)
      · rw [HHo.out]; exact (em_f i2).imp id (fun h => by rw [← HZO.out] at h; simpa using h)
      · rw [HHn.out]; exact (em_f i3).imp id (fun h => by rw [← HZN.out] at h; simpa using h)
      · rw [HHc.out]; exact (em_f i4).imp id (fun h => by rw [← HZC.out] at h; simpa using h)
      · rw [HHd.out]; exact (em_f i5).imp id (fun h => by rw [← HZD.out] at h; rw [HDD.out]; simpa using h)
      · rw [HHf.out]; exact em_f i6
      · rw [HHx.out]; exact (em_f i7).imp id (fun h => by rw [← HZX.out] at h; rw [HXX.out]; simpa using h)
      · rw [HHa.out]; exact (em_f i8).imp id (fun h => by rw [← HZA.out] at h; rw [HM.out]; have := of_decide_eq_false h; omega)))
  have NOT := Lib.hid (fun (hl : ¬ lastD ⟨K, S, O, N, C, F, D, X, A⟩) => HNO.out (fun ok => hl ok.2.2.2))
  clear hzs hzo hzn hzc hza hza2 hXe hzx hps hpe
  go_upto_region 7 with (fail)
  by_cases h0 : K = 0
  · subst h0
    by_cases g1 : 1 ≤ N
    rotate_left
    · have R := Lib.hid (NOT.out (fun h => by (have h := h; revert h; unfold lastD; dsimp only; rw [if_pos rfl]; intro h; exact g1 h.1)))
      go_wp2_with fail
      go_ret
      exact ⟨ret_bool R.out, by rw [HQ.out]; exact B.out⟩
    by_cases g2 : N ≤ 65535
    rotate_left
    · have R := Lib.hid (NOT.out (fun h => by (revert h; unfold lastD; dsimp only; rw [if_pos rfl]; intro h; exact g2 h.2)))
      go_wp2_with fail
      go_ret
      exact ⟨ret_bool R.out, by rw [HQ.out]; exact B.out⟩
    have R := Lib.hid (LAST.out (by unfold lastD; dsimp only; rw [if_pos rfl]; exact ⟨g1, g2⟩))
    go_wp2_with fail
    go_ret
    exact ⟨ret_bool R.out, by rw [HQ.out]; exact B.out⟩
  by_cases h2 : K = 2
  · subst h2
    by_cases g1 : m < 1
    · have g1I : (m : Int) < 1 := by omega
      have R := Lib.hid (NOT.out (fun h => by (revert h; unfold lastD; dsimp only; rw [if_neg (by decide), if_pos rfl]; intro h; have := h.1.1; rw [HM.out] at this; omega)))
      clear g1
      go_wp2_with fail
      go_ret
      exact ⟨ret_bool R.out, by rw [HQ.out]; exact B.out⟩
    have g1I : ¬ (m : Int) < 1 := by omega
    by_cases g2 : 64 < m
    · have g2I : (64 : Int) < (m : Int) := by omega
      have R := Lib.hid (NOT.out (fun h => by (revert h; unfold lastD; dsimp only; rw [if_neg (by decide), if_pos rfl]; intro h; have := h.1.2; rw [HM.out] at this; omega)))
      clear g2
      go_wp2_with fail
      go_ret
      exact ⟨ret_bool R.out, by rw [HQ.out]; exact B.out⟩
    have g2I : ¬ (64 : Int) < (m : Int) := by omega
    obtain h0' | ⟨b, o, rfl, hbl, hcell⟩ := HAT.out
    · rw [h0'] at HM; have := HM.out; simp at this; omega
    have HC := Lib.hid hcell
    have HBL := Lib.hid hbl
    have QS := Lib.hid (show q ≤ wa.heap.size by rw [← HQ.out]; exact B.out.size)
    go_upto_region 13 with (fail)
    clear hcell hbl g1I g2I c0 c1 c2 c3 c4 c5 c6 c7
    go_loopw [4] (fun s4 wr => ∃ (i : Nat) (most : Int), i ≤ m ∧ s4 = .int .i64 (i : Int) ∧ (fallF MX A ↔ fallF most (A.drop i)) ∧ (i = 0 → most = MX) ∧ (∀ (h : 0 < i) (hi : i - 1 < A.length), most = A[i - 1].1 - 2) ∧ (-2 ≤ most ∧ most ≤ MX) ∧ Below wa.heap.size wa wr) (fun s4 _ => m - (intOf s4).toNat)
    case atStart => exact ⟨0, MX, by omega, rfl, Iff.rfl, (fun _ => rfl), (fun h => by omega), ⟨by unfold MX; omega, Int.le_refl _⟩, Below.refl _ _⟩
    case round =>
      obtain ⟨i, most, hi, rfl, hiff, hm0, hmp, hmb, hbw⟩ := hrel
      have BW0 := Lib.hid hbw
      have BW := Lib.hid (show Below wa.heap.size wa wr from hbw)
      have c8w := (hbw.cell (p := ⟨q, 8, none⟩) (World.block_lt_of_cell? wa ⟨q, 8, none⟩ c8)).trans c8
      have IFF := Lib.hid hiff
      have MB := Lib.hid hmb.2
      have ML := Lib.hid hmb.1
      have M0 := Lib.hid hm0
      have MP := Lib.hid hmp
      clear hbw hiff hmb hm0 hmp
      replace c8 := c8w
      clear c8w
      by_cases him : i < m
      rotate_left
      · obtain rfl : i = m := by omega
        have hiI : ¬ (i : Int) < (i : Int) := by omega
        have R := Lib.hid (LAST.out (by
          unfold lastD; dsimp only; rw [if_neg (by decide), if_pos rfl]
          refine ⟨⟨by rw [HM.out]; omega, by rw [HM.out]; omega⟩, ?_⟩
          rw [IFF.out, List.drop_of_length_le (by rw [HM.out]; exact Nat.le_refl _)]
          trivial))
        go_wp2_with fail
        go_ret
        exact ⟨ret_bool R.out, by rw [HQ.out]; exact B.out.trans (BW.out.mono QS.out)⟩
      have hiA : i < A.length := by rw [HM.out]; exact him
      have hiI : (i : Int) < (m : Int) := by omega
      have hi0 : (0 : Int) ≤ (i : Int) := by omega
      have hlt : ∀ w' : World, Below q w w' → Below wa.heap.size wa wr := fun _ _ => BW.out
      obtain ⟨px, py⟩ := HC.out i hiA
      have bwr : Below q w wr := B.out.trans (BW.out.mono QS.out)
      have hbq : b < q := HBL.out
      have cx := (bwr.cell (p := ⟨b, o + i * 2, none⟩) hbq).trans px
      have cy := (bwr.cell (p := ⟨b, o + i * 2 + 1, none⟩) hbq).trans py
      have fd := fallF_drop A most i hiA
      obtain ⟨x, hxe⟩ : ∃ x, (A[i]'hiA).1 = x := ⟨_, rfl⟩
      obtain ⟨y, hye⟩ : ∃ y, (A[i]'hiA).2 = y := ⟨_, rfl⟩
      rw [hxe] at cx fd
      rw [hye] at cy fd
      have HXE := Lib.hid hxe
      have FD := Lib.hid (IFF.out.trans fd)
      obtain ⟨v1, hv1⟩ : ∃ b, decide (x < 0) = b := ⟨_, rfl⟩
      obtain ⟨e2, he2⟩ : ∃ b, decide (y < x) = b := ⟨_, rfl⟩
      obtain ⟨e3, he3⟩ : ∃ b, decide (4611686018427387903 < y) = b := ⟨_, rfl⟩
      have HV1 := Lib.hid hv1
      have HE2 := Lib.hid he2
      have HE3 := Lib.hid he3
      by_cases hi00 : i = 0
      · subst hi00
        have MOST0 := Lib.hid (M0.out rfl)
        have hiI0 : (0 : Int) < (m : Int) := by omega
        rw [Nat.zero_mul, Nat.add_zero] at cx cy
        clear px py fd hxe hye hlt bwr M0 MP IFF
        have bel2 := (Below.refl wr.heap.size wr).alloc (Nat.le_refl _) (.cells #[.int .i64 x, .int .i64 y] 54)
        have row2 := heap_alloc_last wr (.cells #[.int .i64 x, .int .i64 y] 54)
        go_upto_region 16 with (fail)
        generalize wr.alloc _ = w2 at *
        have CG : Hid (∀ w' : World, Below w2.heap.size w2 w' → w'.cell? ⟨wr.heap.size, 0, none⟩ = some (.int .i64 x) ∧ w'.cell? ⟨wr.heap.size, 1, none⟩ = some (.int .i64 y) ∧ w'.cell? ⟨q, 8, none⟩ = some (.slice (some ⟨b, o, none⟩) m c) ∧ True) := Lib.hid (fun w' hb => by
          have r2 := (hb.block _ (lt_row row2)).trans row2
          refine ⟨by rw [cell_of_row _ _ _ _ _ _ r2]; rfl, by rw [cell_of_row _ _ _ _ _ _ r2]; rfl, ?_, ?_⟩
          · exact (hb.cell (p := ⟨q, 8, none⟩) (Nat.lt_of_lt_of_le (World.block_lt_of_cell? wr ⟨q, 8, none⟩ c8) bel2.size)).trans ((bel2.cell (p := ⟨q, 8, none⟩) (World.block_lt_of_cell? wr ⟨q, 8, none⟩ c8)).trans c8)
          · trivial)
        have B2 := Lib.hid (BW.out.trans (bel2.mono BW.out.size))
        clear cx cy c8 bel2 row2
        generalize wr.heap.size = g at *
        refine region_class1 31 (fun w' => Below w2.heap.size w2 w') mixedOrders (by kernel_rfl) (Below.refl _ _).drew rfl ?_
        refine wpQuiet_take (by rfl) (fun K hK => ⟨.pointer (some ⟨g, 0, none⟩), fun w2' hw2 => ?_, hK _ ?_⟩)
        · clear hw2
          go_simp
        clear hK K
        simp only [Act.put, List.setIfInBounds_toArray, List.set_cons_succ, List.set_cons_zero]
        refine wpQuiet_take (by rfl) (fun K hK => ⟨.int .i64 x, fun w2' hw2 => ?_, hK _ ?_⟩)
        · obtain ⟨k0, k1, _⟩ := CG.out w2' hw2
          clear hw2
          go_simp
        clear hK K
        simp only [Act.put, List.setIfInBounds_toArray, List.set_cons_succ, List.set_cons_zero]
        refine wpQuiet_take (by rfl) (fun K hK => ⟨.bool v1, fun w2' hw2 => ?_, hK _ ?_⟩)
        · clear hw2
          go_simp
        clear hK K
        simp only [Act.put, List.setIfInBounds_toArray, List.set_cons_succ, List.set_cons_zero]
        refine wpQuiet_take (by rfl) (fun K hK => ⟨.bool v1, fun w2' hw2 => ?_, hK _ ?_⟩)
        · clear hw2
          go_simp
        clear hK K
        simp only [Act.put, List.setIfInBounds_toArray, List.set_cons_succ, List.set_cons_zero]
        refine wpQuiet_gval (x := v1) (b := false) (v := .pointer (some ⟨g, 0, none⟩)) (by cases v1 <;> rfl) (fun hx w2' hw2 => by (clear hw2); cases v1 <;> first | (exact absurd hx (by decide)) | (clear hx; (try simp only [gv_ff, gv_tt, Bool.not_true, Bool.not_false, Bool.and_true, Bool.true_and, Bool.and_self]); go_simp)) ?_
        simp only [Act.put, List.setIfInBounds_toArray, List.set_cons_succ, List.set_cons_zero]
        refine wpQuiet_gval (x := v1) (b := false) (v := .int .i64 x) (by cases v1 <;> rfl) (fun hx w2' hw2 => by ((obtain ⟨k0, k1, _⟩ := CG.out w2' hw2); clear hw2); cases v1 <;> first | (exact absurd hx (by decide)) | (clear hx; (try simp only [gv_ff, gv_tt, Bool.not_true, Bool.not_false, Bool.and_true, Bool.true_and, Bool.and_self]); go_simp)) ?_
        simp only [Act.put, List.setIfInBounds_toArray, List.set_cons_succ, List.set_cons_zero]
        refine wpQuiet_gval (x := v1) (b := false) (v := .pointer (some ⟨g, 1, none⟩)) (by cases v1 <;> rfl) (fun hx w2' hw2 => by (clear hw2); cases v1 <;> first | (exact absurd hx (by decide)) | (clear hx; (try simp only [gv_ff, gv_tt, Bool.not_true, Bool.not_false, Bool.and_true, Bool.true_and, Bool.and_self]); go_simp)) ?_
        simp only [Act.put, List.setIfInBounds_toArray, List.set_cons_succ, List.set_cons_zero]
        refine wpQuiet_gval (x := v1) (b := false) (v := .int .i64 y) (by cases v1 <;> rfl) (fun hx w2' hw2 => by ((obtain ⟨k0, k1, _⟩ := CG.out w2' hw2); clear hw2); cases v1 <;> first | (exact absurd hx (by decide)) | (clear hx; (try simp only [gv_ff, gv_tt, Bool.not_true, Bool.not_false, Bool.and_true, Bool.true_and, Bool.and_self]); go_simp)) ?_
        simp only [Act.put, List.setIfInBounds_toArray, List.set_cons_succ, List.set_cons_zero]
        refine wpQuiet_gval (x := v1) (b := false) (v := .bool e2) (by cases v1 <;> rfl) (fun hx w2' hw2 => by (clear hw2); cases v1 <;> first | (exact absurd hx (by decide)) | (clear hx; (try simp only [gv_ff, gv_tt, Bool.not_true, Bool.not_false, Bool.and_true, Bool.true_and, Bool.and_self]); go_simp)) ?_
        simp only [Act.put, List.setIfInBounds_toArray, List.set_cons_succ, List.set_cons_zero]
        refine wpQuiet_take (by rfl) (fun K hK => ⟨.bool (v1 || e2), fun w2' hw2 => ?_, hK _ ?_⟩)
        · clear hw2
          cases v1 <;> cases e2 <;> (try simp only [gv_ff, gv_tt, Bool.not_true, Bool.not_false, Bool.and_true, Bool.true_and, Bool.and_self]) <;> go_simp
        clear hK K
        simp only [Act.put, List.setIfInBounds_toArray, List.set_cons_succ, List.set_cons_zero]
        obtain ⟨v2, hv2⟩ : ∃ y, (v1 || e2) = y := ⟨_, rfl⟩
        rw [hv2]
        have HV2 := Lib.hid hv2
        clear hv2
        refine wpQuiet_take (by rfl) (fun K hK => ⟨.bool v2, fun w2' hw2 => ?_, hK _ ?_⟩)
        · clear hw2
          go_simp
        clear hK K
        simp only [Act.put, List.setIfInBounds_toArray, List.set_cons_succ, List.set_cons_zero]
        refine wpQuiet_gval (x := v2) (b := false) (v := .pointer (some ⟨g, 1, none⟩)) (by cases v2 <;> rfl) (fun hx w2' hw2 => by (clear hw2); cases v2 <;> first | (exact absurd hx (by decide)) | (clear hx; (try simp only [gv_ff, gv_tt, Bool.not_true, Bool.not_false, Bool.and_true, Bool.true_and, Bool.and_self]); go_simp)) ?_
        simp only [Act.put, List.setIfInBounds_toArray, List.set_cons_succ, List.set_cons_zero]
        refine wpQuiet_gval (x := v2) (b := false) (v := .int .i64 y) (by cases v2 <;> rfl) (fun hx w2' hw2 => by ((obtain ⟨k0, k1, _⟩ := CG.out w2' hw2); clear hw2); cases v2 <;> first | (exact absurd hx (by decide)) | (clear hx; (try simp only [gv_ff, gv_tt, Bool.not_true, Bool.not_false, Bool.and_true, Bool.true_and, Bool.and_self]); go_simp)) ?_
        simp only [Act.put, List.setIfInBounds_toArray, List.set_cons_succ, List.set_cons_zero]
        refine wpQuiet_gval (x := v2) (b := false) (v := .bool e3) (by cases v2 <;> rfl) (fun hx w2' hw2 => by (clear hw2); cases v2 <;> first | (exact absurd hx (by decide)) | (clear hx; (try simp only [gv_ff, gv_tt, Bool.not_true, Bool.not_false, Bool.and_true, Bool.true_and, Bool.and_self]); go_simp)) ?_
        simp only [Act.put, List.setIfInBounds_toArray, List.set_cons_succ, List.set_cons_zero]
        refine wpQuiet_take (by rfl) (fun K hK => ⟨.bool (v2 || e3), fun w2' hw2 => ?_, hK _ ?_⟩)
        · clear hw2
          cases v2 <;> cases e3 <;> (try simp only [gv_ff, gv_tt, Bool.not_true, Bool.not_false, Bool.and_true, Bool.true_and, Bool.and_self]) <;> go_simp
        clear hK K
        simp only [Act.put, List.setIfInBounds_toArray, List.set_cons_succ, List.set_cons_zero]
        obtain ⟨v3, hv3⟩ : ∃ y, (v2 || e3) = y := ⟨_, rfl⟩
        rw [hv3]
        have HV3 := Lib.hid hv3
        clear hv3
        refine wpQuiet_take (by rfl) (fun K hK => ⟨.bool v3, fun w2' hw2 => ?_, hK _ ?_⟩)
        · clear hw2
          go_simp
        clear hK K
        simp only [Act.put, List.setIfInBounds_toArray, List.set_cons_succ, List.set_cons_zero]
        refine wpQuiet_gval (x := v3) (b := false) (v := .int .i64 0) (by cases v3 <;> rfl) (fun hx w2' hw2 => by (clear hw2); cases v3 <;> first | (exact absurd hx (by decide)) | (clear hx; (try simp only [gv_ff, gv_tt, Bool.not_true, Bool.not_false, Bool.and_true, Bool.true_and, Bool.and_self]); go_simp)) ?_
        simp only [Act.put, List.setIfInBounds_toArray, List.set_cons_succ, List.set_cons_zero]
        refine wpQuiet_gval (x := v3) (b := false) (v := .bool false) (by cases v3 <;> rfl) (fun hx w2' hw2 => by (clear hw2); cases v3 <;> first | (exact absurd hx (by decide)) | (clear hx; (try simp only [gv_ff, gv_tt, Bool.not_true, Bool.not_false, Bool.and_true, Bool.true_and, Bool.and_self]); go_simp)) ?_
        simp only [Act.put, List.setIfInBounds_toArray, List.set_cons_succ, List.set_cons_zero]
        refine wpQuiet_gval (x := v3) (b := false) (v := .bool false) (by cases v3 <;> rfl) (fun hx w2' hw2 => by (clear hw2); cases v3 <;> first | (exact absurd hx (by decide)) | (clear hx; (try simp only [gv_ff, gv_tt, Bool.not_true, Bool.not_false, Bool.and_true, Bool.true_and, Bool.and_self]); go_simp)) ?_
        simp only [Act.put, List.setIfInBounds_toArray, List.set_cons_succ, List.set_cons_zero]
        refine wpQuiet_gval (x := false) (b := true) (v := undef) (by cases v3 <;> rfl) (fun hx => absurd hx (by decide)) ?_
        simp only [Act.put, List.setIfInBounds_toArray, List.set_cons_succ, List.set_cons_zero]
        refine wpQuiet_gval (x := false) (b := true) (v := undef) (by cases v3 <;> rfl) (fun hx => absurd hx (by decide)) ?_
        simp only [Act.put, List.setIfInBounds_toArray, List.set_cons_succ, List.set_cons_zero]
        refine wpQuiet_gval (x := false) (b := true) (v := undef) (by cases v3 <;> rfl) (fun hx => absurd hx (by decide)) ?_
        simp only [Act.put, List.setIfInBounds_toArray, List.set_cons_succ, List.set_cons_zero]
        refine wpQuiet_gval (x := false) (b := true) (v := undef) (by cases v3 <;> rfl) (fun hx => absurd hx (by decide)) ?_
        simp only [Act.put, List.setIfInBounds_toArray, List.set_cons_succ, List.set_cons_zero]
        refine wpQuiet_gval (x := false) (b := true) (v := undef) (by cases v3 <;> rfl) (fun hx => absurd hx (by decide)) ?_
        simp only [Act.put, List.setIfInBounds_toArray, List.set_cons_succ, List.set_cons_zero]
        refine wpQuiet_gval (x := false) (b := true) (v := undef) (by cases v3 <;> rfl) (fun hx => absurd hx (by decide)) ?_
        simp only [Act.put, List.setIfInBounds_toArray, List.set_cons_succ, List.set_cons_zero]
        refine wpQuiet_gval (x := false) (b := true) (v := undef) (by cases v3 <;> rfl) (fun hx => absurd hx (by decide)) ?_
        simp only [Act.put, List.setIfInBounds_toArray, List.set_cons_succ, List.set_cons_zero]
        refine wpQuiet_gval (x := false) (b := true) (v := undef) (by cases v3 <;> rfl) (fun hx => absurd hx (by decide)) ?_
        simp only [Act.put, List.setIfInBounds_toArray, List.set_cons_succ, List.set_cons_zero]
        refine wpQuiet_gval (x := false) (b := true) (v := undef) (by cases v3 <;> rfl) (fun hx => absurd hx (by decide)) ?_
        simp only [Act.put, List.setIfInBounds_toArray, List.set_cons_succ, List.set_cons_zero]
        refine wpQuiet_gval (x := false) (b := true) (v := undef) (by cases v3 <;> rfl) (fun hx => absurd hx (by decide)) ?_
        simp only [Act.put, List.setIfInBounds_toArray, List.set_cons_succ, List.set_cons_zero]
        refine wpQuiet_gval (x := false) (b := true) (v := undef) (by cases v3 <;> rfl) (fun hx => absurd hx (by decide)) ?_
        simp only [Act.put, List.setIfInBounds_toArray, List.set_cons_succ, List.set_cons_zero]
        refine wpQuiet_gval (x := v3) (b := false) (v := .bool false) (by cases v3 <;> rfl) (fun hx w2' hw2 => by (clear hw2); cases v3 <;> first | (exact absurd hx (by decide)) | (clear hx; (try simp only [gv_ff, gv_tt, Bool.not_true, Bool.not_false, Bool.and_true, Bool.true_and, Bool.and_self]); go_simp)) ?_
        simp only [Act.put, List.setIfInBounds_toArray, List.set_cons_succ, List.set_cons_zero]
        refine wpQuiet_take0 ?_
        intro w3 hw3
        have B3 := Lib.hid (B2.out.trans (hw3.mono B2.out.size))
        clear hw3 CG
        refine wpList_run (v := .bool (v3 || false)) (w' := w3) rfl (by cases v3 <;> (try simp only [gv_ff, gv_tt, Bool.not_true, Bool.not_false, Bool.and_true, Bool.true_and, Bool.and_self]) <;> go_simp) ?_
        simp only [Act.put, List.setIfInBounds_toArray, List.set_cons_succ, List.set_cons_zero]
        obtain ⟨v4, hv4⟩ : ∃ y, (v3 || false) = y := ⟨_, rfl⟩
        rw [hv4]
        have HV4 := Lib.hid hv4
        clear hv4
        cases v4 with
        | true =>
          have R := Lib.hid (NOT.out (fun h => by
            revert h
            unfold lastD; dsimp only; rw [if_neg (by decide), if_pos rfl]
            intro h
            have h2 := (FD.out.1 h.2).1
            have a1 : v1 = false := by rw [← HV1.out]; exact decide_eq_false (by omega)
            have a2 : e2 = false := by rw [← HE2.out]; exact decide_eq_false (by omega)
            have a3 : e3 = false := by rw [← HE3.out]; exact decide_eq_false (by have := MB.out; unfold MX at this; omega)
            have a4 := HV4.out
            rw [← HV3.out, ← HV2.out, a1, a2, a3] at a4
            cases a4))
          go_wp2_with fail
          go_ret
          exact ⟨ret_bool R.out, by rw [HQ.out]; exact B.out.trans (B3.out.mono QS.out)⟩
        | false =>
          obtain ⟨j3, j5⟩ := or_false' HV4.out rfl
          obtain ⟨j2, i3⟩ := or_false' HV3.out j3
          obtain ⟨i1, i2⟩ := or_false' HV2.out j2
          have n1 := of_decide_eq_false (HV1.out.trans i1)
          have n2 := of_decide_eq_false (HE2.out.trans i2)
          have n3 := of_decide_eq_false (HE3.out.trans i3)
          have hd1 := MOST0.out
          have NXT := Lib.hid (show fallF MX A ↔ fallF (x - 2) (A.drop (0 + 1)) from FD.out.trans ⟨fun h => h.2, fun h => ⟨⟨by omega, by omega, by rw [hd1]; unfold MX; omega⟩, h⟩⟩)
          have NB := Lib.hid (show -2 ≤ x - 2 ∧ x - 2 ≤ MX from ⟨by omega, by unfold MX; omega⟩)
          clear j3 j5 j2 i3 i1 i2 n1 n2 n3 hd1
          go_wp2_with fail
          go_roundw
          case rel => exact ⟨0 + 1, x - 2, by omega, by go_num, NXT.out, (fun h => by omega), (fun _ _ => congrArg (fun z : Int => z - 2) HXE.out.symm), NB.out, B3.out⟩
          case measure => (simp [intOf] <;> omega)
      obtain ⟨k, rfl⟩ : ∃ k, i = k + 1 := ⟨i - 1, by omega⟩
      have hkI : (0 : Int) < ((k + 1 : Nat) : Int) := by omega
      have hk1 : ((k + 1 : Nat) : Int) - 1 = (k : Int) := by omega
      have hkm : (k : Int) < (m : Int) := by omega
      have hk0 : (0 : Int) ≤ (k : Int) := by omega
      have hkA : k < A.length := by omega
      obtain ⟨pp, _⟩ := HC.out k hkA
      have cp := (bwr.cell (p := ⟨b, o + k * 2, none⟩) hbq).trans pp
      obtain ⟨pv, hpv⟩ : ∃ x, (A[k]'hkA).1 = x := ⟨_, rfl⟩
      rw [hpv] at cp
      have PVM := Lib.hid (show most = pv - 2 from by rw [← hpv]; exact MP.out (by omega) (by omega))
      obtain ⟨e5, he5⟩ : ∃ b, decide (pv - 2 < y) = b := ⟨_, rfl⟩
      have HE5 := Lib.hid he5
      have hpw : IntKind.i64.wrap (pv - 2) = pv - 2 := by
        have h1 := PVM.out
        have h2 := MB.out
        have h3 := ML.out
        unfold MX at h2
        rw [IntKind.wrap_i64]
        omega
      have hkw : IntKind.i64.wrap (k : Int) = (k : Int) := by rw [IntKind.wrap_i64]; omega
      clear pp px py fd hxe hye hpv hlt bwr M0 MP IFF hi00
      have bel2 := (Below.refl wr.heap.size wr).alloc (Nat.le_refl _) (.cells #[.int .i64 x, .int .i64 y] 54)
      have row2 := heap_alloc_last wr (.cells #[.int .i64 x, .int .i64 y] 54)
      go_upto_region 16 with (fail)
      generalize wr.alloc _ = w2 at *
      have CG : Hid (∀ w' : World, Below w2.heap.size w2 w' → w'.cell? ⟨wr.heap.size, 0, none⟩ = some (.int .i64 x) ∧ w'.cell? ⟨wr.heap.size, 1, none⟩ = some (.int .i64 y) ∧ w'.cell? ⟨q, 8, none⟩ = some (.slice (some ⟨b, o, none⟩) m c) ∧ w'.cell? ⟨b, o + k * 2, none⟩ = some (.int .i64 pv)) := Lib.hid (fun w' hb => by
        have r2 := (hb.block _ (lt_row row2)).trans row2
        refine ⟨by rw [cell_of_row _ _ _ _ _ _ r2]; rfl, by rw [cell_of_row _ _ _ _ _ _ r2]; rfl, ?_, ?_⟩
        · exact (hb.cell (p := ⟨q, 8, none⟩) (Nat.lt_of_lt_of_le (World.block_lt_of_cell? wr ⟨q, 8, none⟩ c8) bel2.size)).trans ((bel2.cell (p := ⟨q, 8, none⟩) (World.block_lt_of_cell? wr ⟨q, 8, none⟩ c8)).trans c8)
        · exact (hb.cell (p := ⟨b, o + k * 2, none⟩) (Nat.lt_of_lt_of_le (World.block_lt_of_cell? wr ⟨b, o + k * 2, none⟩ cp) bel2.size)).trans ((bel2.cell (p := ⟨b, o + k * 2, none⟩) (World.block_lt_of_cell? wr ⟨b, o + k * 2, none⟩ cp)).trans cp))
      have B2 := Lib.hid (BW.out.trans (bel2.mono BW.out.size))
      clear cx cy c8 bel2 row2 cp
      generalize wr.heap.size = g at *
      refine region_class1 31 (fun w' => Below w2.heap.size w2 w') mixedOrders (by kernel_rfl) (Below.refl _ _).drew rfl ?_
      refine wpQuiet_take (by rfl) (fun K hK => ⟨.pointer (some ⟨g, 0, none⟩), fun w2' hw2 => ?_, hK _ ?_⟩)
      · clear hw2
        go_simp
      clear hK K
      simp only [Act.put, List.setIfInBounds_toArray, List.set_cons_succ, List.set_cons_zero]
      refine wpQuiet_take (by rfl) (fun K hK => ⟨.int .i64 x, fun w2' hw2 => ?_, hK _ ?_⟩)
      · obtain ⟨k0, k1, _⟩ := CG.out w2' hw2
        clear hw2
        go_simp
      clear hK K
      simp only [Act.put, List.setIfInBounds_toArray, List.set_cons_succ, List.set_cons_zero]
      refine wpQuiet_take (by rfl) (fun K hK => ⟨.bool v1, fun w2' hw2 => ?_, hK _ ?_⟩)
      · clear hw2
        go_simp
      clear hK K
      simp only [Act.put, List.setIfInBounds_toArray, List.set_cons_succ, List.set_cons_zero]
      refine wpQuiet_take (by rfl) (fun K hK => ⟨.bool v1, fun w2' hw2 => ?_, hK _ ?_⟩)
      · clear hw2
        go_simp
      clear hK K
      simp only [Act.put, List.setIfInBounds_toArray, List.set_cons_succ, List.set_cons_zero]
      refine wpQuiet_gval (x := v1) (b := false) (v := .pointer (some ⟨g, 0, none⟩)) (by cases v1 <;> rfl) (fun hx w2' hw2 => by (clear hw2); cases v1 <;> first | (exact absurd hx (by decide)) | (clear hx; (try simp only [gv_ff, gv_tt, Bool.not_true, Bool.not_false, Bool.and_true, Bool.true_and, Bool.and_self]); go_simp)) ?_
      simp only [Act.put, List.setIfInBounds_toArray, List.set_cons_succ, List.set_cons_zero]
      refine wpQuiet_gval (x := v1) (b := false) (v := .int .i64 x) (by cases v1 <;> rfl) (fun hx w2' hw2 => by ((obtain ⟨k0, k1, _⟩ := CG.out w2' hw2); clear hw2); cases v1 <;> first | (exact absurd hx (by decide)) | (clear hx; (try simp only [gv_ff, gv_tt, Bool.not_true, Bool.not_false, Bool.and_true, Bool.true_and, Bool.and_self]); go_simp)) ?_
      simp only [Act.put, List.setIfInBounds_toArray, List.set_cons_succ, List.set_cons_zero]
      refine wpQuiet_gval (x := v1) (b := false) (v := .pointer (some ⟨g, 1, none⟩)) (by cases v1 <;> rfl) (fun hx w2' hw2 => by (clear hw2); cases v1 <;> first | (exact absurd hx (by decide)) | (clear hx; (try simp only [gv_ff, gv_tt, Bool.not_true, Bool.not_false, Bool.and_true, Bool.true_and, Bool.and_self]); go_simp)) ?_
      simp only [Act.put, List.setIfInBounds_toArray, List.set_cons_succ, List.set_cons_zero]
      refine wpQuiet_gval (x := v1) (b := false) (v := .int .i64 y) (by cases v1 <;> rfl) (fun hx w2' hw2 => by ((obtain ⟨k0, k1, _⟩ := CG.out w2' hw2); clear hw2); cases v1 <;> first | (exact absurd hx (by decide)) | (clear hx; (try simp only [gv_ff, gv_tt, Bool.not_true, Bool.not_false, Bool.and_true, Bool.true_and, Bool.and_self]); go_simp)) ?_
      simp only [Act.put, List.setIfInBounds_toArray, List.set_cons_succ, List.set_cons_zero]
      refine wpQuiet_gval (x := v1) (b := false) (v := .bool e2) (by cases v1 <;> rfl) (fun hx w2' hw2 => by (clear hw2); cases v1 <;> first | (exact absurd hx (by decide)) | (clear hx; (try simp only [gv_ff, gv_tt, Bool.not_true, Bool.not_false, Bool.and_true, Bool.true_and, Bool.and_self]); go_simp)) ?_
      simp only [Act.put, List.setIfInBounds_toArray, List.set_cons_succ, List.set_cons_zero]
      refine wpQuiet_take (by rfl) (fun K hK => ⟨.bool (v1 || e2), fun w2' hw2 => ?_, hK _ ?_⟩)
      · clear hw2
        cases v1 <;> cases e2 <;> (try simp only [gv_ff, gv_tt, Bool.not_true, Bool.not_false, Bool.and_true, Bool.true_and, Bool.and_self]) <;> go_simp
      clear hK K
      simp only [Act.put, List.setIfInBounds_toArray, List.set_cons_succ, List.set_cons_zero]
      obtain ⟨v2, hv2⟩ : ∃ y, (v1 || e2) = y := ⟨_, rfl⟩
      rw [hv2]
      have HV2 := Lib.hid hv2
      clear hv2
      refine wpQuiet_take (by rfl) (fun K hK => ⟨.bool v2, fun w2' hw2 => ?_, hK _ ?_⟩)
      · clear hw2
        go_simp
      clear hK K
      simp only [Act.put, List.setIfInBounds_toArray, List.set_cons_succ, List.set_cons_zero]
      refine wpQuiet_gval (x := v2) (b := false) (v := .pointer (some ⟨g, 1, none⟩)) (by cases v2 <;> rfl) (fun hx w2' hw2 => by (clear hw2); cases v2 <;> first | (exact absurd hx (by decide)) | (clear hx; (try simp only [gv_ff, gv_tt, Bool.not_true, Bool.not_false, Bool.and_true, Bool.true_and, Bool.and_self]); go_simp)) ?_
      simp only [Act.put, List.setIfInBounds_toArray, List.set_cons_succ, List.set_cons_zero]
      refine wpQuiet_gval (x := v2) (b := false) (v := .int .i64 y) (by cases v2 <;> rfl) (fun hx w2' hw2 => by ((obtain ⟨k0, k1, _⟩ := CG.out w2' hw2); clear hw2); cases v2 <;> first | (exact absurd hx (by decide)) | (clear hx; (try simp only [gv_ff, gv_tt, Bool.not_true, Bool.not_false, Bool.and_true, Bool.true_and, Bool.and_self]); go_simp)) ?_
      simp only [Act.put, List.setIfInBounds_toArray, List.set_cons_succ, List.set_cons_zero]
      refine wpQuiet_gval (x := v2) (b := false) (v := .bool e3) (by cases v2 <;> rfl) (fun hx w2' hw2 => by (clear hw2); cases v2 <;> first | (exact absurd hx (by decide)) | (clear hx; (try simp only [gv_ff, gv_tt, Bool.not_true, Bool.not_false, Bool.and_true, Bool.true_and, Bool.and_self]); go_simp)) ?_
      simp only [Act.put, List.setIfInBounds_toArray, List.set_cons_succ, List.set_cons_zero]
      refine wpQuiet_take (by rfl) (fun K hK => ⟨.bool (v2 || e3), fun w2' hw2 => ?_, hK _ ?_⟩)
      · clear hw2
        cases v2 <;> cases e3 <;> (try simp only [gv_ff, gv_tt, Bool.not_true, Bool.not_false, Bool.and_true, Bool.true_and, Bool.and_self]) <;> go_simp
      clear hK K
      simp only [Act.put, List.setIfInBounds_toArray, List.set_cons_succ, List.set_cons_zero]
      obtain ⟨v3, hv3⟩ : ∃ y, (v2 || e3) = y := ⟨_, rfl⟩
      rw [hv3]
      have HV3 := Lib.hid hv3
      clear hv3
      refine wpQuiet_take (by rfl) (fun K hK => ⟨.bool v3, fun w2' hw2 => ?_, hK _ ?_⟩)
      · clear hw2
        go_simp
      clear hK K
      simp only [Act.put, List.setIfInBounds_toArray, List.set_cons_succ, List.set_cons_zero]
      refine wpQuiet_gval (x := v3) (b := false) (v := .int .i64 ((k + 1 : Nat) : Int)) (by cases v3 <;> rfl) (fun hx w2' hw2 => by (clear hw2); cases v3 <;> first | (exact absurd hx (by decide)) | (clear hx; (try simp only [gv_ff, gv_tt, Bool.not_true, Bool.not_false, Bool.and_true, Bool.true_and, Bool.and_self]); go_simp)) ?_
      simp only [Act.put, List.setIfInBounds_toArray, List.set_cons_succ, List.set_cons_zero]
      refine wpQuiet_gval (x := v3) (b := false) (v := .bool true) (by cases v3 <;> rfl) (fun hx w2' hw2 => by (clear hw2); cases v3 <;> first | (exact absurd hx (by decide)) | (clear hx; (try simp only [gv_ff, gv_tt, Bool.not_true, Bool.not_false, Bool.and_true, Bool.true_and, Bool.and_self]); go_simp)) ?_
      simp only [Act.put, List.setIfInBounds_toArray, List.set_cons_succ, List.set_cons_zero]
      refine wpQuiet_gval (x := v3) (b := false) (v := .bool true) (by cases v3 <;> rfl) (fun hx w2' hw2 => by (clear hw2); cases v3 <;> first | (exact absurd hx (by decide)) | (clear hx; (try simp only [gv_ff, gv_tt, Bool.not_true, Bool.not_false, Bool.and_true, Bool.true_and, Bool.and_self]); go_simp)) ?_
      simp only [Act.put, List.setIfInBounds_toArray, List.set_cons_succ, List.set_cons_zero]
      refine wpQuiet_gval (x := (!v3)) (b := true) (v := .pointer (some ⟨g, 1, none⟩)) (by cases v3 <;> rfl) (fun hx w2' hw2 => by (clear hw2); cases v3 <;> first | (exact absurd hx (by decide)) | (clear hx; (try simp only [gv_ff, gv_tt, Bool.not_true, Bool.not_false, Bool.and_true, Bool.true_and, Bool.and_self]); go_simp)) ?_
      simp only [Act.put, List.setIfInBounds_toArray, List.set_cons_succ, List.set_cons_zero]
      refine wpQuiet_gval (x := (!v3)) (b := true) (v := .int .i64 y) (by cases v3 <;> rfl) (fun hx w2' hw2 => by ((obtain ⟨k0, k1, _⟩ := CG.out w2' hw2); clear hw2); cases v3 <;> first | (exact absurd hx (by decide)) | (clear hx; (try simp only [gv_ff, gv_tt, Bool.not_true, Bool.not_false, Bool.and_true, Bool.true_and, Bool.and_self]); go_simp)) ?_
      simp only [Act.put, List.setIfInBounds_toArray, List.set_cons_succ, List.set_cons_zero]
      refine wpQuiet_gval (x := (!v3)) (b := true) (v := .pointer (some ⟨q, 8, none⟩)) (by cases v3 <;> rfl) (fun hx w2' hw2 => by (clear hw2); cases v3 <;> first | (exact absurd hx (by decide)) | (clear hx; (try simp only [gv_ff, gv_tt, Bool.not_true, Bool.not_false, Bool.and_true, Bool.true_and, Bool.and_self]); go_simp)) ?_
      simp only [Act.put, List.setIfInBounds_toArray, List.set_cons_succ, List.set_cons_zero]
      refine wpQuiet_gval (x := (!v3)) (b := true) (v := .slice (some ⟨b, o, none⟩) m c) (by cases v3 <;> rfl) (fun hx w2' hw2 => by ((obtain ⟨_, _, k2, k3⟩ := CG.out w2' hw2); clear hw2); cases v3 <;> first | (exact absurd hx (by decide)) | (clear hx; (try simp only [gv_ff, gv_tt, Bool.not_true, Bool.not_false, Bool.and_true, Bool.true_and, Bool.and_self]); go_simp)) ?_
      simp only [Act.put, List.setIfInBounds_toArray, List.set_cons_succ, List.set_cons_zero]
      refine wpQuiet_gval (x := (!v3)) (b := true) (v := .int .i64 ((k + 1 : Nat) : Int)) (by cases v3 <;> rfl) (fun hx w2' hw2 => by (clear hw2); cases v3 <;> first | (exact absurd hx (by decide)) | (clear hx; (try simp only [gv_ff, gv_tt, Bool.not_true, Bool.not_false, Bool.and_true, Bool.true_and, Bool.and_self]); go_simp)) ?_
      simp only [Act.put, List.setIfInBounds_toArray, List.set_cons_succ, List.set_cons_zero]
      refine wpQuiet_gval (x := (!v3)) (b := true) (v := .int .i64 (k : Int)) (by cases v3 <;> rfl) (fun hx w2' hw2 => by (clear hw2); cases v3 <;> first | (exact absurd hx (by decide)) | (clear hx; (try simp only [gv_ff, gv_tt, Bool.not_true, Bool.not_false, Bool.and_true, Bool.true_and, Bool.and_self]); go_simp)) ?_
      simp only [Act.put, List.setIfInBounds_toArray, List.set_cons_succ, List.set_cons_zero]
      refine wpQuiet_gval (x := (!v3)) (b := true) (v := .pointer (some ⟨b, o + k * 2, none⟩)) (by cases v3 <;> rfl) (fun hx w2' hw2 => by (clear hw2); cases v3 <;> first | (exact absurd hx (by decide)) | (clear hx; (try simp only [gv_ff, gv_tt, Bool.not_true, Bool.not_false, Bool.and_true, Bool.true_and, Bool.and_self]); go_simp)) ?_
      simp only [Act.put, List.setIfInBounds_toArray, List.set_cons_succ, List.set_cons_zero]
      refine wpQuiet_gval (x := (!v3)) (b := true) (v := .pointer (some ⟨b, o + k * 2, none⟩)) (by cases v3 <;> rfl) (fun hx w2' hw2 => by (clear hw2); cases v3 <;> first | (exact absurd hx (by decide)) | (clear hx; (try simp only [gv_ff, gv_tt, Bool.not_true, Bool.not_false, Bool.and_true, Bool.true_and, Bool.and_self]); go_simp)) ?_
      simp only [Act.put, List.setIfInBounds_toArray, List.set_cons_succ, List.set_cons_zero]
      refine wpQuiet_gval (x := (!v3)) (b := true) (v := .int .i64 pv) (by cases v3 <;> rfl) (fun hx w2' hw2 => by ((obtain ⟨_, _, k2, k3⟩ := CG.out w2' hw2); clear hw2); cases v3 <;> first | (exact absurd hx (by decide)) | (clear hx; (try simp only [gv_ff, gv_tt, Bool.not_true, Bool.not_false, Bool.and_true, Bool.true_and, Bool.and_self]); go_simp)) ?_
      simp only [Act.put, List.setIfInBounds_toArray, List.set_cons_succ, List.set_cons_zero]
      refine wpQuiet_gval (x := (!v3)) (b := true) (v := .int .i64 (pv - 2)) (by cases v3 <;> rfl) (fun hx w2' hw2 => by (clear hw2); cases v3 <;> first | (exact absurd hx (by decide)) | (clear hx; (try simp only [gv_ff, gv_tt, Bool.not_true, Bool.not_false, Bool.and_true, Bool.true_and, Bool.and_self]); go_simp)) ?_
      simp only [Act.put, List.setIfInBounds_toArray, List.set_cons_succ, List.set_cons_zero]
      refine wpQuiet_gval (x := (!v3)) (b := true) (v := .bool e5) (by cases v3 <;> rfl) (fun hx w2' hw2 => by (clear hw2); cases v3 <;> first | (exact absurd hx (by decide)) | (clear hx; (try simp only [gv_ff, gv_tt, Bool.not_true, Bool.not_false, Bool.and_true, Bool.true_and, Bool.and_self]); go_simp)) ?_
      simp only [Act.put, List.setIfInBounds_toArray, List.set_cons_succ, List.set_cons_zero]
      refine wpQuiet_gval (x := v3) (b := false) (v := .bool e5) (by cases v3 <;> cases e5 <;> rfl) (fun hx w2' hw2 => by (clear hw2); cases v3 <;> cases e5 <;> first | (exact absurd hx (by decide)) | (clear hx; (try simp only [gv_ff, gv_tt, Bool.not_true, Bool.not_false, Bool.and_true, Bool.true_and, Bool.and_self]); go_simp)) ?_
      simp only [Act.put, List.setIfInBounds_toArray, List.set_cons_succ, List.set_cons_zero]
      refine wpQuiet_take0 ?_
      intro w3 hw3
      have B3 := Lib.hid (B2.out.trans (hw3.mono B2.out.size))
      clear hw3 CG
      refine wpList_run (v := .bool (v3 || e5)) (w' := w3) rfl (by cases v3 <;> cases e5 <;> (try simp only [gv_ff, gv_tt, Bool.not_true, Bool.not_false, Bool.and_true, Bool.true_and, Bool.and_self]) <;> go_simp) ?_
      simp only [Act.put, List.setIfInBounds_toArray, List.set_cons_succ, List.set_cons_zero]
      obtain ⟨v4, hv4⟩ : ∃ y, (v3 || e5) = y := ⟨_, rfl⟩
      rw [hv4]
      have HV4 := Lib.hid hv4
      clear hv4
      cases v4 with
      | true =>
        have R := Lib.hid (NOT.out (fun h => by
          revert h
          unfold lastD; dsimp only; rw [if_neg (by decide), if_pos rfl]
          intro h
          have h2 := (FD.out.1 h.2).1
          have a1 : v1 = false := by rw [← HV1.out]; exact decide_eq_false (by omega)
          have a2 : e2 = false := by rw [← HE2.out]; exact decide_eq_false (by omega)
          have a3 : e3 = false := by rw [← HE3.out]; exact decide_eq_false (by have := MB.out; unfold MX at this; omega)
          have a5 : e5 = false := by rw [← HE5.out]; exact decide_eq_false (by have := PVM.out; omega)
          have a4 := HV4.out
          rw [← HV3.out, ← HV2.out, a1, a2, a3, a5] at a4
          cases a4))
        go_wp2_with fail
        go_ret
        exact ⟨ret_bool R.out, by rw [HQ.out]; exact B.out.trans (B3.out.mono QS.out)⟩
      | false =>
        obtain ⟨j3, j5⟩ := or_false' HV4.out rfl
        obtain ⟨j2, i3⟩ := or_false' HV3.out j3
        obtain ⟨i1, i2⟩ := or_false' HV2.out j2
        have n1 := of_decide_eq_false (HV1.out.trans i1)
        have n2 := of_decide_eq_false (HE2.out.trans i2)
        have n3 := of_decide_eq_false (HE3.out.trans i3)
        have n5 := of_decide_eq_false (HE5.out.trans j5)
        have hd1 := PVM.out
        have NXT := Lib.hid (show fallF MX A ↔ fallF (x - 2) (A.drop ((k + 1) + 1)) from FD.out.trans ⟨fun h => h.2, fun h => ⟨⟨by omega, by omega, by omega⟩, h⟩⟩)
        have NB := Lib.hid (show -2 ≤ x - 2 ∧ x - 2 ≤ MX from ⟨by omega, by unfold MX; omega⟩)
        clear j3 j5 j2 i3 i1 i2 n1 n2 n3 hd1
        go_wp2_with fail
        go_roundw
        case rel => exact ⟨(k + 1) + 1, x - 2, by omega, by go_num, NXT.out, (fun h => by omega), (fun _ _ => congrArg (fun z : Int => z - 2) HXE.out.symm), NB.out, B3.out⟩
        case measure => (simp [intOf] <;> omega)
  by_cases h6 : K = 6
  · subst h6
    by_cases g1 : O ≤ 4611686018427387903 - (d : Int)
    rotate_left
    · have R := Lib.hid (NOT.out (fun h => by (revert h; unfold lastD; dsimp only; rw [if_neg (by decide), if_neg (by decide), if_pos (.inl rfl)]; intro h; rw [HDD.out] at h; exact g1 h)))
      go_wp2_with fail
      go_ret
      exact ⟨ret_bool R.out, by rw [HQ.out]; exact B.out⟩
    have R := Lib.hid (LAST.out (by unfold lastD; dsimp only; rw [if_neg (by decide), if_neg (by decide), if_pos (.inl rfl)]; rw [HDD.out]; exact g1))
    go_wp2_with fail
    go_ret
    exact ⟨ret_bool R.out, by rw [HQ.out]; exact B.out⟩
  by_cases h8 : K = 8
  · subst h8
    by_cases g1 : O ≤ 4611686018427387903 - (d : Int)
    rotate_left
    · have R := Lib.hid (NOT.out (fun h => by (revert h; unfold lastD; dsimp only; rw [if_neg (by decide), if_neg (by decide), if_pos (.inr rfl)]; intro h; rw [HDD.out] at h; exact g1 h)))
      go_wp2_with fail
      go_ret
      exact ⟨ret_bool R.out, by rw [HQ.out]; exact B.out⟩
    have R := Lib.hid (LAST.out (by unfold lastD; dsimp only; rw [if_neg (by decide), if_neg (by decide), if_pos (.inr rfl)]; rw [HDD.out]; exact g1))
    go_wp2_with fail
    go_ret
    exact ⟨ret_bool R.out, by rw [HQ.out]; exact B.out⟩
  by_cases h7 : K = 7
  · subst h7
    cases zd with
    | true =>
      have R := Lib.hid (LAST.out (by unfold lastD; dsimp only; rw [if_neg (by decide), if_neg (by decide), if_neg (by decide), if_pos rfl]; rw [HDD.out]; have h := HZD.out; simpa using h))
      go_wp2_with fail
      go_ret
      exact ⟨ret_bool R.out, by rw [HQ.out]; exact B.out⟩
    | false =>
      have R := Lib.hid (NOT.out (fun h => by (revert h; unfold lastD; dsimp only; rw [if_neg (by decide), if_neg (by decide), if_neg (by decide), if_pos rfl]; intro h; rw [HDD.out] at h; have h2 := HZD.out; simp at h2; exact h h2)))
      go_wp2_with fail
      go_ret
      exact ⟨ret_bool R.out, by rw [HQ.out]; exact B.out⟩
  by_cases h18 : K = 18
  · subst h18
    by_cases g1 : N ≤ 1152921504606846976
    rotate_left
    · have R := Lib.hid (NOT.out (fun h => by (revert h; unfold lastD; dsimp only; rw [if_neg (by decide), if_neg (by decide), if_neg (by decide), if_neg (by decide), if_pos (.inl rfl)]; intro h; exact g1 h)))
      go_wp2_with fail
      go_ret
      exact ⟨ret_bool R.out, by rw [HQ.out]; exact B.out⟩
    have R := Lib.hid (LAST.out (by unfold lastD; dsimp only; rw [if_neg (by decide), if_neg (by decide), if_neg (by decide), if_neg (by decide), if_pos (.inl rfl)]; exact g1))
    go_wp2_with fail
    go_ret
    exact ⟨ret_bool R.out, by rw [HQ.out]; exact B.out⟩
  by_cases h22 : K = 22
  · subst h22
    by_cases g1 : N ≤ 1152921504606846976
    rotate_left
    · have R := Lib.hid (NOT.out (fun h => by (revert h; unfold lastD; dsimp only; rw [if_neg (by decide), if_neg (by decide), if_neg (by decide), if_neg (by decide), if_pos (.inr rfl)]; intro h; exact g1 h)))
      go_wp2_with fail
      go_ret
      exact ⟨ret_bool R.out, by rw [HQ.out]; exact B.out⟩
    have R := Lib.hid (LAST.out (by unfold lastD; dsimp only; rw [if_neg (by decide), if_neg (by decide), if_neg (by decide), if_neg (by decide), if_pos (.inr rfl)]; exact g1))
    go_wp2_with fail
    go_ret
    exact ⟨ret_bool R.out, by rw [HQ.out]; exact B.out⟩
  by_cases h24 : K = 24
  · subst h24
    by_cases g1 : O ≤ N
    rotate_left
    · have R := Lib.hid (NOT.out (fun h => by (revert h; unfold lastD; dsimp only; rw [if_neg (by decide), if_neg (by decide), if_neg (by decide), if_neg (by decide), if_neg (by decide), if_pos rfl]; intro h; rw [HDD.out] at h; omega)))
      go_wp2_with fail
      go_ret
      exact ⟨ret_bool R.out, by rw [HQ.out]; exact B.out⟩
    by_cases g2 : (1 : Int) ≤ (d : Int)
    rotate_left
    · have R := Lib.hid (NOT.out (fun h => by (revert h; unfold lastD; dsimp only; rw [if_neg (by decide), if_neg (by decide), if_neg (by decide), if_neg (by decide), if_neg (by decide), if_pos rfl]; intro h; rw [HDD.out] at h; omega)))
      go_wp2_with fail
      go_ret
      exact ⟨ret_bool R.out, by rw [HQ.out]; exact B.out⟩
    by_cases g3 : (d : Int) ≤ 20
    rotate_left
    · have R := Lib.hid (NOT.out (fun h => by (revert h; unfold lastD; dsimp only; rw [if_neg (by decide), if_neg (by decide), if_neg (by decide), if_neg (by decide), if_neg (by decide), if_pos rfl]; intro h; rw [HDD.out] at h; omega)))
      go_wp2_with fail
      go_ret
      exact ⟨ret_bool R.out, by rw [HQ.out]; exact B.out⟩
    by_cases g4 : xz = 16
    rotate_left
    · have R := Lib.hid (NOT.out (fun h => by (revert h; unfold lastD; dsimp only; rw [if_neg (by decide), if_neg (by decide), if_neg (by decide), if_neg (by decide), if_neg (by decide), if_pos rfl]; intro h; rw [HXX.out] at h; omega)))
      have gb : ((xz : Int) == 16) = false := beq_eq_false_iff_ne.2 (by omega)
      go_wp2_with fail
      go_ret
      exact ⟨ret_bool R.out, by rw [HQ.out]; exact B.out⟩
    have gb : ((xz : Int) == 16) = true := beq_iff_eq.2 (by omega)
    have R := Lib.hid (LAST.out (by unfold lastD; dsimp only; rw [if_neg (by decide), if_neg (by decide), if_neg (by decide), if_neg (by decide), if_neg (by decide), if_pos rfl]; rw [HDD.out, HXX.out]; omega))
    clear g4
    go_wp2_with fail
    go_ret
    exact ⟨ret_bool R.out, by rw [HQ.out]; exact B.out⟩
  by_cases h26 : K = 26
  · subst h26
    by_cases g1 : d = 8
    rotate_left
    · have R := Lib.hid (NOT.out (fun h => by (revert h; unfold lastD; dsimp only; rw [if_neg (by decide), if_neg (by decide), if_neg (by decide), if_neg (by decide), if_neg (by decide), if_neg (by decide), if_pos (.inl rfl)]; intro h; rw [HDD.out] at h; exact g1 h)))
      have gb : ((d : Int) == 8) = false := beq_eq_false_iff_ne.2 (by omega)
      go_wp2_with fail
      go_ret
      exact ⟨ret_bool R.out, by rw [HQ.out]; exact B.out⟩
    have gb : ((d : Int) == 8) = true := beq_iff_eq.2 (by omega)
    have R := Lib.hid (LAST.out (by unfold lastD; dsimp only; rw [if_neg (by decide), if_neg (by decide), if_neg (by decide), if_neg (by decide), if_neg (by decide), if_neg (by decide), if_pos (.inl rfl)]; rw [HDD.out]; exact g1))
    clear g1
    go_wp2_with fail
    go_ret
    exact ⟨ret_bool R.out, by rw [HQ.out]; exact B.out⟩
  by_cases h27 : K = 27
  · subst h27
    by_cases g1 : d = 8
    rotate_left
    · have R := Lib.hid (NOT.out (fun h => by (revert h; unfold lastD; dsimp only; rw [if_neg (by decide), if_neg (by decide), if_neg (by decide), if_neg (by decide), if_neg (by decide), if_neg (by decide), if_pos (.inr rfl)]; intro h; rw [HDD.out] at h; exact g1 h)))
      have gb : ((d : Int) == 8) = false := beq_eq_false_iff_ne.2 (by omega)
      go_wp2_with fail
      go_ret
      exact ⟨ret_bool R.out, by rw [HQ.out]; exact B.out⟩
    have gb : ((d : Int) == 8) = true := beq_iff_eq.2 (by omega)
    have R := Lib.hid (LAST.out (by unfold lastD; dsimp only; rw [if_neg (by decide), if_neg (by decide), if_neg (by decide), if_neg (by decide), if_neg (by decide), if_neg (by decide), if_pos (.inr rfl)]; rw [HDD.out]; exact g1))
    clear g1
    go_wp2_with fail
    go_ret
    exact ⟨ret_bool R.out, by rw [HQ.out]; exact B.out⟩
  have b0 : (K == 0) = false := beq_eq_false_iff_ne.2 h0
  have b2 : (K == 2) = false := beq_eq_false_iff_ne.2 h2
  have b6 : (K == 6) = false := beq_eq_false_iff_ne.2 h6
  have b8 : (K == 8) = false := beq_eq_false_iff_ne.2 h8
  have b7 : (K == 7) = false := beq_eq_false_iff_ne.2 h7
  have b18 : (K == 18) = false := beq_eq_false_iff_ne.2 h18
  have b22 : (K == 22) = false := beq_eq_false_iff_ne.2 h22
  have b24 : (K == 24) = false := beq_eq_false_iff_ne.2 h24
  have b26 : (K == 26) = false := beq_eq_false_iff_ne.2 h26
  have b27 : (K == 27) = false := beq_eq_false_iff_ne.2 h27
  have R := Lib.hid (LAST.out (by unfold lastD; dsimp only; rw [if_neg h0, if_neg h2, if_neg (by omega), if_neg h7, if_neg (by omega), if_neg h24, if_neg (by omega)]; trivial))
  go_wp2_with fail
  go_ret
  exact ⟨ret_bool R.out, by rw [HQ.out]; exact B.out⟩
end Go.Proofs.YtcgbhcmgddgheabDoor
