/-
  THE DOCUMENT'S ANSWER FOR curve, SECOND PART: Times.
-/
import Derived.Test.YtmfiabkhnoimhaaCurveE
import Derived.Test.YtmfiabkhnoimhaaAny
namespace Go.Proofs.Ytmfiabkhnoimhaa
open Go Go.RowKit Go.BigFrame
set_option linter.unusedVariables false
set_option linter.unusedSimpArgs false
theorem conv3 (b : Nat) (w : World) (h0 : w.cell? ⟨b, 0, none⟩ = some (.int .u8 65)) (h1 : w.cell? ⟨b, 1, none⟩ = some (.int .u8 219)) (h2 : w.cell? ⟨b, 2, none⟩ = some (.int .u8 1)) :
    (convert 25 9 (.slice (some ⟨b, 0, none⟩) 3 3)).run Try.prog w = .ok (.string (strOf a24F 3)) w := by
  refine conv_str a24F b 0 3 3 w (fun i hi => ?_)
  have hc : i = 0 ∨ i = 1 ∨ i = 2 := by omega
  have e0 : n8 (a24F 0) = 65 := by unfold n8; rfl
  have e1 : n8 (a24F 1) = 219 := by unfold n8; rfl
  have e2 : n8 (a24F 2) = 1 := by unfold n8; rfl
  rw [Nat.zero_add]
  rcases hc with rfl | rfl | rfl
  · rw [e0]; exact h0
  · rw [e1]; exact h1
  · rw [e2]; exact h2
theorem conv29 (b : Nat) (w : World) (h0 : w.cell? ⟨b, 0, none⟩ = some (.int .u8 0)) (h1 : w.cell? ⟨b, 1, none⟩ = some (.int .u8 0)) (h2 : w.cell? ⟨b, 2, none⟩ = some (.int .u8 0)) (h3 : w.cell? ⟨b, 3, none⟩ = some (.int .u8 0)) (h4 : w.cell? ⟨b, 4, none⟩ = some (.int .u8 0)) (h5 : w.cell? ⟨b, 5, none⟩ = some (.int .u8 0)) (h6 : w.cell? ⟨b, 6, none⟩ = some (.int .u8 0)) (h7 : w.cell? ⟨b, 7, none⟩ = some (.int .u8 0)) (h8 : w.cell? ⟨b, 8, none⟩ = some (.int .u8 0)) (h9 : w.cell? ⟨b, 9, none⟩ = some (.int .u8 0)) (h10 : w.cell? ⟨b, 10, none⟩ = some (.int .u8 0)) (h11 : w.cell? ⟨b, 11, none⟩ = some (.int .u8 0)) (h12 : w.cell? ⟨b, 12, none⟩ = some (.int .u8 0)) (h13 : w.cell? ⟨b, 13, none⟩ = some (.int .u8 0)) (h14 : w.cell? ⟨b, 14, none⟩ = some (.int .u8 0)) (h15 : w.cell? ⟨b, 15, none⟩ = some (.int .u8 0)) (h16 : w.cell? ⟨b, 16, none⟩ = some (.int .u8 0)) (h17 : w.cell? ⟨b, 17, none⟩ = some (.int .u8 0)) (h18 : w.cell? ⟨b, 18, none⟩ = some (.int .u8 0)) (h19 : w.cell? ⟨b, 19, none⟩ = some (.int .u8 0)) (h20 : w.cell? ⟨b, 20, none⟩ = some (.int .u8 0)) (h21 : w.cell? ⟨b, 21, none⟩ = some (.int .u8 0)) (h22 : w.cell? ⟨b, 22, none⟩ = some (.int .u8 0)) (h23 : w.cell? ⟨b, 23, none⟩ = some (.int .u8 0)) (h24 : w.cell? ⟨b, 24, none⟩ = some (.int .u8 0)) (h25 : w.cell? ⟨b, 25, none⟩ = some (.int .u8 0)) (h26 : w.cell? ⟨b, 26, none⟩ = some (.int .u8 0)) (h27 : w.cell? ⟨b, 27, none⟩ = some (.int .u8 0)) (h28 : w.cell? ⟨b, 28, none⟩ = some (.int .u8 0)) :
    (convert 25 9 (.slice (some ⟨b, 0, none⟩) 29 29)).run Try.prog w = .ok (.string (strOf (fun _ => 0#8) 29)) w := by
  refine conv_str (fun _ => 0#8) b 0 29 29 w (fun i hi => ?_)
  have key : w.cell? ⟨b, 0 + i, none⟩ = some (.int .u8 (n8 0#8)) := by
    have hc : i = 0 ∨ i = 1 ∨ i = 2 ∨ i = 3 ∨ i = 4 ∨ i = 5 ∨ i = 6 ∨ i = 7 ∨ i = 8 ∨ i = 9 ∨ i = 10 ∨ i = 11 ∨ i = 12 ∨ i = 13 ∨ i = 14 ∨ i = 15 ∨ i = 16 ∨ i = 17 ∨ i = 18 ∨ i = 19 ∨ i = 20 ∨ i = 21 ∨ i = 22 ∨ i = 23 ∨ i = 24 ∨ i = 25 ∨ i = 26 ∨ i = 27 ∨ i = 28 := by omega
    rw [z8, Nat.zero_add]
    rcases hc with rfl | rfl | rfl | rfl | rfl | rfl | rfl | rfl | rfl | rfl | rfl | rfl | rfl | rfl | rfl | rfl | rfl | rfl | rfl | rfl | rfl | rfl | rfl | rfl | rfl | rfl | rfl | rfl | rfl

    · exact h0
    · exact h1
    · exact h2
    · exact h3
    · exact h4
    · exact h5
    · exact h6
    · exact h7
    · exact h8
    · exact h9
    · exact h10
    · exact h11
    · exact h12
    · exact h13
    · exact h14
    · exact h15
    · exact h16
    · exact h17
    · exact h18
    · exact h19
    · exact h20
    · exact h21
    · exact h22
    · exact h23
    · exact h24
    · exact h25
    · exact h26
    · exact h27
    · exact h28
  exact key
theorem make29 (w : World) : (Instr.makeSlice 25 (.int .i64 29) (.int .i64 29)).run Try.prog w = .ok (.slice (some ⟨w.heap.size, 0, none⟩) 29 29) (w.alloc (.cells #[.int .u8 0, .int .u8 0, .int .u8 0, .int .u8 0, .int .u8 0, .int .u8 0, .int .u8 0, .int .u8 0, .int .u8 0, .int .u8 0, .int .u8 0, .int .u8 0, .int .u8 0, .int .u8 0, .int .u8 0, .int .u8 0, .int .u8 0, .int .u8 0, .int .u8 0, .int .u8 0, .int .u8 0, .int .u8 0, .int .u8 0, .int .u8 0, .int .u8 0, .int .u8 0, .int .u8 0, .int .u8 0, .int .u8 0] 5)) := by kernel_rfl
theorem a24_num : strOf a24F 32 = numS Cv.k24.val := by
  refine str_same (fun i hi => ?_)
  have : ∀ i, i < 32 → a24F i = BitVec.ofNat 8 (Cv.k24.val / 256 ^ i) := by decide +kernel
  exact this i hi
theorem a24_str : strOf a24F 3 ++ strOf (fun _ => 0#8) 29 = numS Cv.k24.val := by
  rw [strOf_append, ← a24_num, strOf_eq]
  have : ∀ i, i < 32 → (if i < 3 then a24F i else 0#8) = a24F i := by decide
  exact this
theorem run_build3 {o : Oper} (ho : o.op = .buildSlice 25 3 #[(0, .const (.int .u8 65)), (1, .const (.int .u8 219)), (2, .const (.int .u8 1))]) (a : Act) (w : World) :
    (execOp a.eval o).run Try.prog w = .ok (.value (.slice (some ⟨w.heap.size, 0, none⟩) 3 3)) (w.alloc (.cells #[.int .u8 65, .int .u8 219, .int .u8 1] 5)) := by
  unfold execOp
  rw [ho]
  kernel_rfl
theorem run_make29 {o : Oper} (ho : o.op = .makeSlice 25 (.const (.int .i64 29)) (.const (.int .i64 29))) (a : Act) (w : World) :
    (execOp a.eval o).run Try.prog w = .ok (.value (.slice (some ⟨w.heap.size, 0, none⟩) 29 29)) (w.alloc (.cells #[.int .u8 0, .int .u8 0, .int .u8 0, .int .u8 0, .int .u8 0, .int .u8 0, .int .u8 0, .int .u8 0, .int .u8 0, .int .u8 0, .int .u8 0, .int .u8 0, .int .u8 0, .int .u8 0, .int .u8 0, .int .u8 0, .int .u8 0, .int .u8 0, .int .u8 0, .int .u8 0, .int .u8 0, .int .u8 0, .int .u8 0, .int .u8 0, .int .u8 0, .int .u8 0, .int .u8 0, .int .u8 0, .int .u8 0] 5)) := by
  unfold execOp
  rw [ho]
  kernel_rfl
theorem quiet_of_run {P : Program} {x : Sem Value} {v : Value} {w : World} (h : x.run P w = .ok v w) : (x >>= fun v => pure (Next.value v)).run P w = .ok (.value v) w := by
  rw [Sem.run_bind, h]; rfl
theorem run_addstr {o : Oper} {t : TypeId} {x y : Operand} (ho : o.op = .binOp .add t x y t) (a : Act) (w : World) {S T U : ByteArray} (hx : a.eval x = .string S) (hy : a.eval y = .string T) (h : S ++ T = U) (hn : S.size + T.size ≤ 1000 := by simp [strOf_size]) :
    (execOp a.eval o).run Try.prog w = .ok (.value (.string U)) w := by
  unfold execOp
  rw [ho]
  simp only [hx, hy]
  rw [← h]
  have h2 : ¬ 9223372036854775807 < S.size + T.size := by omega
  go_simp
theorem run_assign {o : Oper} {x : Operand} (ho : o.op = .assign x) (a : Act) (w : World) {v : Value} (hx : a.eval x = v) : (execOp a.eval o).run Try.prog w = .ok (.value v) w := by
  unfold execOp
  rw [ho]
  simp only [hx]
  rfl
theorem ext_alloc (w : World) (A : Obj) : Ext w (w.alloc A) := (Below.refl _ _).alloc (Nat.le_refl _) _
theorem ext_chain {w0 w2 w5 w6 : World} {A B : Obj} (h2 : Ext w0 w2) (h5 : Ext (w2.alloc A) w5) (h6 : Ext (w5.alloc B) w6) : Ext w0 w6 :=
  (h2.trans ((ext_alloc w2 A).trans h5)).trans ((ext_alloc w5 B).trans h6)
theorem two_ways {α β γ : Type} {E : γ → Prop} {kk : α → β → γ → Prop} {G : Prop} (main : (∀ x y z, E z → kk x y z) → G) (key : ∀ x y z, E z → kk x y z) : G := main key
/-- Two operations may come up, each makes memory. -/
theorem anyM_two {P : Program} {ops : Array Oper} {Q : Exit → Act → World → Prop} {md : Region.Mode} {i j : Nat} {o o' : Oper} {f : Nat} {l : Array Bool} {a : Act} {w : World} (hr : Region.ready md ops l = [i, j]) (hi : ops[i]? = some o) (hj : ops[j]? = some o')
    (hw : Region.wanted o (yielded ops a.tmps) = true) (hw' : Region.wanted o' (yielded ops a.tmps) = true)
    (h : ∀ w2, Ext w w2 → ∃ v w3, (execOp a.eval o).run P w2 = .ok (.value v) w3 ∧ Ext w2 w3 ∧ anyM P md ops Q f (l.setIfInBounds i true) (a.put o.dst v) w3)
    (h' : ∀ w2, Ext w w2 → ∃ v w3, (execOp a.eval o').run P w2 = .ok (.value v) w3 ∧ Ext w2 w3 ∧ anyM P md ops Q f (l.setIfInBounds j true) (a.put o'.dst v) w3) : anyM P md ops Q (f + 1) l a w := by
  refine ⟨fun h0 => (by rw [hr] at h0; cases h0), fun k hk w2 e => ?_⟩
  rw [hr] at hk
  rcases List.mem_cons.1 hk with rfl | hk
  · obtain ⟨v, w3, h1, h2, h3⟩ := h w2 e
    unfold wpOp
    simp only [hi]
    rw [if_pos hw]
    refine .inl ?_
    unfold Oper.wp
    rw [h1]
    exact ⟨h2, h3⟩
  · obtain rfl := List.mem_singleton.1 hk
    obtain ⟨v, w3, h1, h2, h3⟩ := h' w2 e
    unfold wpOp
    simp only [hj]
    rw [if_pos hw']
    refine .inl ?_
    unfold Oper.wp
    rw [h1]
    exact ⟨h2, h3⟩
abbrev R2 (f : Nat) (x y z : ByteArray) : Prop := ∀ w : World, Calls Try.prog f #[.string x, .string y] w fun e w' => e = .returned (.string z) ∧ Below w.heap.size w w'

set_option maxHeartbeats 40000000 in
set_option maxRecDepth 100000 in
theorem refTimes_any (f g : Nat → BitVec 8) (w : World) :
    Calls Try.prog 10 #[.string (strOf f 32), .string (strOf g 32)] w fun e w' => e = .returned (.string (numS (timesN f g))) ∧ Below w.heap.size w w' := by
  have c3 := conv3
  have c29 := conv29
  have mk := make29
  have sz := strOf_size
  have sm := a24_str
  go_enter Try.func10, Try.ntmps10
  have C3 := Lib.hid c3; have C29 := Lib.hid c29; have MK := Lib.hid mk; have SZ := Lib.hid sz; have SM := Lib.hid sm
  clear c3 c29 mk sz sm
  obtain ⟨x, hx⟩ : ∃ x, ptF g = x := ⟨_, rfl⟩
  obtain ⟨bits, hb⟩ : ∃ b, Cv.bit f = b := ⟨_, rfl⟩
  have HO : Hid ((Cv.out x bits).val = timesN f g) := Lib.hid (by unfold timesN; rw [hx, hb])
  have UO := refOfF g
  rw [hx] at UO
  have UB := fun j hj w => refBit_any f j hj w
  rw [hb] at UB
  have UO := Lib.hid UO
  have UB := Lib.hid UB
  clear hx hb
  have hcur := Below.refl w.heap.size w
  go_wp2_with (first
    | (go_at_call 22; with_reducible refine (UO.out _).mono ?_; rintro e w1 ⟨rfl, hq⟩; have hcur := hcur.trans (hq.mono hcur.size); clear hq)
    | (go_at_call 13; first | (with_reducible refine (small_oneF _).mono ?_; rintro e w1 ⟨rfl, hq⟩; have hcur := hcur.trans (hq.mono hcur.size); clear hq) | (with_reducible refine (small_zeroF _).mono ?_; rintro e w1 ⟨rfl, hq⟩; have hcur := hcur.trans (hq.mono hcur.size); clear hq)))
  go_loopw [6, 7, 8, 9, 10] (fun s6 s7 s8 s9 s10 wq => ∃ k : Nat, k ≤ 255 ∧ s10 = .int .i64 (254 - (k : Int)) ∧ s6 = .string (numS (Cv.st x bits k).a.val) ∧ s7 = .string (numS (Cv.st x bits k).b.val) ∧ s8 = .string (numS (Cv.st x bits k).c.val) ∧ s9 = .string (numS (Cv.st x bits k).d.val) ∧ Below w.heap.size w wq) (fun _ _ _ _ s10 _ => (intOf s10 + 1).toNat)
  case atStart => exact ⟨0, by omega, rfl, rfl, rfl, rfl, rfl, hcur⟩
  case round =>
    clear hcur
    obtain ⟨k, hk, rfl, rfl, rfl, rfl, rfl, hcur⟩ := hrel
    by_cases hlt : k < 255
    · obtain ⟨j, hj, hjk, hj8⟩ : ∃ j : Nat, 254 - (k : Int) = (j : Int) ∧ j = 254 - k ∧ j ≤ 254 := ⟨254 - k, by omega, rfl, by omega⟩
      have HJ := Lib.hid hj
      have HK := Lib.hid hjk
      rw [hj]
      clear hj hjk
      have hs : Cv.st x bits (k + 1) = Cv.sw (bits (254 - k)) (Cv.step x (Cv.sw (bits (254 - k)) (Cv.st x bits k))) := rfl
      have UJ := UB.out j hj8
      rw [HK.out] at UJ
      have UJ := Lib.hid (by rw [← HK.out] at UJ; exact UJ : ∀ w : World, Calls Try.prog 23 #[.string (strOf f 32), .int .i64 (j : Int)] w fun e w' => e = .returned (.bool (bits j)) ∧ w' = w)
      rw [← HK.out] at hs
      obtain ⟨sk, hsk⟩ : ∃ sk, Cv.st x bits k = sk := ⟨_, rfl⟩
      rw [hsk] at hs ⊢
      clear hsk
      obtain ⟨sn, hsn⟩ : ∃ sn, Cv.st x bits (k + 1) = sn := ⟨_, rfl⟩
      rw [hsn] at hs
      have HSN := Lib.hid hsn
      clear hsn
      generalize bits j = on at *
      obtain ⟨ca, cb, cc, cd⟩ := sk
      dsimp only
      cases on
      · obtain ⟨S_a, h_a⟩ : ∃ z, numS ca.val = z := ⟨_, rfl⟩
        obtain ⟨S_b, h_b⟩ : ∃ z, numS cb.val = z := ⟨_, rfl⟩
        obtain ⟨S_c, h_c⟩ : ∃ z, numS cc.val = z := ⟨_, rfl⟩
        obtain ⟨S_d, h_d⟩ : ∃ z, numS cd.val = z := ⟨_, rfl⟩
        obtain ⟨S_x, h_x⟩ : ∃ z, numS x.val = z := ⟨_, rfl⟩
        obtain ⟨S_K, h_K⟩ : ∃ z, numS Cv.k24.val = z := ⟨_, rfl⟩
        obtain ⟨A, q_A⟩ : ∃ z : Cv.F, ca + cb = z := ⟨_, rfl⟩
        obtain ⟨S_A, h_A⟩ : ∃ z, numS A.val = z := ⟨_, rfl⟩
        have U_A : R2 24 S_a S_b S_A := by have U := refAddF ca cb; rw [q_A, h_a, h_b, h_A] at U; exact U
        have UA := Lib.hid U_A
        clear U_A
        obtain ⟨B, q_B⟩ : ∃ z : Cv.F, ca - cb = z := ⟨_, rfl⟩
        obtain ⟨S_B, h_B⟩ : ∃ z, numS B.val = z := ⟨_, rfl⟩
        have U_B : R2 25 S_a S_b S_B := by have U := refSubF ca cb; rw [q_B, h_a, h_b, h_B] at U; exact U
        have UB := Lib.hid U_B
        clear U_B
        obtain ⟨C, q_C⟩ : ∃ z : Cv.F, cc + cd = z := ⟨_, rfl⟩
        obtain ⟨S_C, h_C⟩ : ∃ z, numS C.val = z := ⟨_, rfl⟩
        have U_C : R2 24 S_c S_d S_C := by have U := refAddF cc cd; rw [q_C, h_c, h_d, h_C] at U; exact U
        have UC := Lib.hid U_C
        clear U_C
        obtain ⟨D, q_D⟩ : ∃ z : Cv.F, cc - cd = z := ⟨_, rfl⟩
        obtain ⟨S_D, h_D⟩ : ∃ z, numS D.val = z := ⟨_, rfl⟩
        have U_D : R2 25 S_c S_d S_D := by have U := refSubF cc cd; rw [q_D, h_c, h_d, h_D] at U; exact U
        have UD := Lib.hid U_D
        clear U_D
        obtain ⟨DA, q_DA⟩ : ∃ z : Cv.F, D * A = z := ⟨_, rfl⟩
        obtain ⟨S_DA, h_DA⟩ : ∃ z, numS DA.val = z := ⟨_, rfl⟩
        have U_DA : R2 26 S_D S_A S_DA := by have U := refMulF D A; rw [q_DA, h_D, h_A, h_DA] at U; exact U
        have UDA := Lib.hid U_DA
        clear U_DA
        obtain ⟨CB, q_CB⟩ : ∃ z : Cv.F, C * B = z := ⟨_, rfl⟩
        obtain ⟨S_CB, h_CB⟩ : ∃ z, numS CB.val = z := ⟨_, rfl⟩
        have U_CB : R2 26 S_C S_B S_CB := by have U := refMulF C B; rw [q_CB, h_C, h_B, h_CB] at U; exact U
        have UCB := Lib.hid U_CB
        clear U_CB
        obtain ⟨AA, q_AA⟩ : ∃ z : Cv.F, A * A = z := ⟨_, rfl⟩
        obtain ⟨S_AA, h_AA⟩ : ∃ z, numS AA.val = z := ⟨_, rfl⟩
        have U_AA : R2 26 S_A S_A S_AA := by have U := refMulF A A; rw [q_AA, h_A, h_AA] at U; exact U
        have UAA := Lib.hid U_AA
        clear U_AA
        obtain ⟨BB, q_BB⟩ : ∃ z : Cv.F, B * B = z := ⟨_, rfl⟩
        obtain ⟨S_BB, h_BB⟩ : ∃ z, numS BB.val = z := ⟨_, rfl⟩
        have U_BB : R2 26 S_B S_B S_BB := by have U := refMulF B B; rw [q_BB, h_B, h_BB] at U; exact U
        have UBB := Lib.hid U_BB
        clear U_BB
        obtain ⟨E, q_E⟩ : ∃ z : Cv.F, AA - BB = z := ⟨_, rfl⟩
        obtain ⟨S_E, h_E⟩ : ∃ z, numS E.val = z := ⟨_, rfl⟩
        have U_E : R2 25 S_AA S_BB S_E := by have U := refSubF AA BB; rw [q_E, h_AA, h_BB, h_E] at U; exact U
        have UE := Lib.hid U_E
        clear U_E
        obtain ⟨SU, q_SU⟩ : ∃ z : Cv.F, DA + CB = z := ⟨_, rfl⟩
        obtain ⟨S_SU, h_SU⟩ : ∃ z, numS SU.val = z := ⟨_, rfl⟩
        have U_SU : R2 24 S_DA S_CB S_SU := by have U := refAddF DA CB; rw [q_SU, h_DA, h_CB, h_SU] at U; exact U
        have USU := Lib.hid U_SU
        clear U_SU
        obtain ⟨DI, q_DI⟩ : ∃ z : Cv.F, DA - CB = z := ⟨_, rfl⟩
        obtain ⟨S_DI, h_DI⟩ : ∃ z, numS DI.val = z := ⟨_, rfl⟩
        have U_DI : R2 25 S_DA S_CB S_DI := by have U := refSubF DA CB; rw [q_DI, h_DA, h_CB, h_DI] at U; exact U
        have UDI := Lib.hid U_DI
        clear U_DI
        obtain ⟨X3, q_X3⟩ : ∃ z : Cv.F, SU * SU = z := ⟨_, rfl⟩
        obtain ⟨S_X3, h_X3⟩ : ∃ z, numS X3.val = z := ⟨_, rfl⟩
        have U_X3 : R2 26 S_SU S_SU S_X3 := by have U := refMulF SU SU; rw [q_X3, h_SU, h_X3] at U; exact U
        have UX3 := Lib.hid U_X3
        clear U_X3
        obtain ⟨DD, q_DD⟩ : ∃ z : Cv.F, DI * DI = z := ⟨_, rfl⟩
        obtain ⟨S_DD, h_DD⟩ : ∃ z, numS DD.val = z := ⟨_, rfl⟩
        have U_DD : R2 26 S_DI S_DI S_DD := by have U := refMulF DI DI; rw [q_DD, h_DI, h_DD] at U; exact U
        have UDD := Lib.hid U_DD
        clear U_DD
        obtain ⟨Z3, q_Z3⟩ : ∃ z : Cv.F, x * DD = z := ⟨_, rfl⟩
        obtain ⟨S_Z3, h_Z3⟩ : ∃ z, numS Z3.val = z := ⟨_, rfl⟩
        have U_Z3 : R2 26 S_x S_DD S_Z3 := by have U := refMulF x DD; rw [q_Z3, h_x, h_DD, h_Z3] at U; exact U
        have UZ3 := Lib.hid U_Z3
        clear U_Z3
        obtain ⟨X2, q_X2⟩ : ∃ z : Cv.F, AA * BB = z := ⟨_, rfl⟩
        obtain ⟨S_X2, h_X2⟩ : ∃ z, numS X2.val = z := ⟨_, rfl⟩
        have U_X2 : R2 26 S_AA S_BB S_X2 := by have U := refMulF AA BB; rw [q_X2, h_AA, h_BB, h_X2] at U; exact U
        have UX2 := Lib.hid U_X2
        clear U_X2
        obtain ⟨M, q_M⟩ : ∃ z : Cv.F, Cv.k24 * E = z := ⟨_, rfl⟩
        obtain ⟨S_M, h_M⟩ : ∃ z, numS M.val = z := ⟨_, rfl⟩
        have U_M : R2 26 S_K S_E S_M := by have U := refMulF Cv.k24 E; rw [q_M, h_K, h_E, h_M] at U; exact U
        have UM := Lib.hid U_M
        clear U_M
        obtain ⟨N, q_N⟩ : ∃ z : Cv.F, AA + M = z := ⟨_, rfl⟩
        obtain ⟨S_N, h_N⟩ : ∃ z, numS N.val = z := ⟨_, rfl⟩
        have U_N : R2 24 S_AA S_M S_N := by have U := refAddF AA M; rw [q_N, h_AA, h_M, h_N] at U; exact U
        have UN := Lib.hid U_N
        clear U_N
        obtain ⟨Z2, q_Z2⟩ : ∃ z : Cv.F, E * N = z := ⟨_, rfl⟩
        obtain ⟨S_Z2, h_Z2⟩ : ∃ z, numS Z2.val = z := ⟨_, rfl⟩
        have U_Z2 : R2 26 S_E S_N S_Z2 := by have U := refMulF E N; rw [q_Z2, h_E, h_N, h_Z2] at U; exact U
        have UZ2 := Lib.hid U_Z2
        clear U_Z2
        have HN : sn = ⟨X2, Z2, X3, Z3⟩ := by
          rw [hs]
          show Cv.sw false (Cv.step x ⟨ca, cb, cc, cd⟩) = _
          unfold Cv.step Cv.sw
          dsimp only
          rw [q_A, q_B, q_C, q_D, q_DA, q_CB, q_AA, q_BB, q_E, q_SU, q_DI, q_X3, q_DD, q_Z3, q_X2, q_M, q_N, q_Z2]
          rfl
        rw [h_a, h_b, h_c, h_d, h_x]
        have SM2 := SM.out
        rw [h_K] at SM2
        have SM2 := Lib.hid SM2
        have E1 := Lib.hid h_X2; have E2 := Lib.hid h_Z2; have E3 := Lib.hid h_X3; have E4 := Lib.hid h_Z3; have HN := Lib.hid HN
        clear hs q_A h_A q_B h_B q_C h_C q_D h_D q_DA h_DA q_CB h_CB q_AA h_AA q_BB h_BB q_E h_E q_SU h_SU q_DI h_DI q_X3 h_X3 q_DD h_DD q_Z3 h_Z3 q_X2 h_X2 q_M h_M q_N h_N q_Z2 h_Z2 h_a h_b h_c h_d h_x
        have C3' := C3.out; have C29' := C29.out; have MK' := MK.out; have SZ' := SZ.out; have SM' := SM2.out
        clear C3' C29' MK' SZ' SM'
        go_upto_region 10 with (go_at_call 23; with_reducible refine (UJ.out _).mono ?_; rintro e w' ⟨rfl, rfl⟩)
        go_upto_region 11 with (first
            | (go_at_call 24; with_reducible refine (UA.out _).mono ?_; rintro e w' ⟨rfl, hq⟩; have hcur := hcur.trans (hq.mono hcur.size); clear hq)
            | (go_at_call 25; with_reducible refine (UB.out _).mono ?_; rintro e w' ⟨rfl, hq⟩; have hcur := hcur.trans (hq.mono hcur.size); clear hq)
            )
        go_upto_region 12 with (first
            | (go_at_call 24; with_reducible refine (UC.out _).mono ?_; rintro e w' ⟨rfl, hq⟩; have hcur := hcur.trans (hq.mono hcur.size); clear hq)
            | (go_at_call 25; with_reducible refine (UD.out _).mono ?_; rintro e w' ⟨rfl, hq⟩; have hcur := hcur.trans (hq.mono hcur.size); clear hq)
            )
        go_upto_region 13 with (first
            | (go_at_call 26; with_reducible refine (UDA.out _).mono ?_; rintro e w' ⟨rfl, hq⟩; have hcur := hcur.trans (hq.mono hcur.size); clear hq)
            | (go_at_call 26; with_reducible refine (UCB.out _).mono ?_; rintro e w' ⟨rfl, hq⟩; have hcur := hcur.trans (hq.mono hcur.size); clear hq)
            )
        go_upto_region 14 with (first
            | (go_at_call 26; with_reducible refine (UAA.out _).mono ?_; rintro e w' ⟨rfl, hq⟩; have hcur := hcur.trans (hq.mono hcur.size); clear hq)
            | (go_at_call 26; with_reducible refine (UBB.out _).mono ?_; rintro e w' ⟨rfl, hq⟩; have hcur := hcur.trans (hq.mono hcur.size); clear hq)
            )
        go_upto_region 15 with (first
            | (go_at_call 25; with_reducible refine (UE.out _).mono ?_; rintro e w' ⟨rfl, hq⟩; have hcur := hcur.trans (hq.mono hcur.size); clear hq)
            )
        go_upto_region 16 with (first
            | (go_at_call 24; with_reducible refine (USU.out _).mono ?_; rintro e w' ⟨rfl, hq⟩; have hcur := hcur.trans (hq.mono hcur.size); clear hq)
            | (go_at_call 25; with_reducible refine (UDI.out _).mono ?_; rintro e w' ⟨rfl, hq⟩; have hcur := hcur.trans (hq.mono hcur.size); clear hq)
            )
        go_upto_region 17 with (first
            | (go_at_call 26; with_reducible refine (UX3.out _).mono ?_; rintro e w' ⟨rfl, hq⟩; have hcur := hcur.trans (hq.mono hcur.size); clear hq)
            | (go_at_call 26; with_reducible refine (UDD.out _).mono ?_; rintro e w' ⟨rfl, hq⟩; have hcur := hcur.trans (hq.mono hcur.size); clear hq)
            | (go_at_call 26; with_reducible refine (UZ3.out _).mono ?_; rintro e w' ⟨rfl, hq⟩; have hcur := hcur.trans (hq.mono hcur.size); clear hq)
            )
        go_upto_region 18 with (first
            | (go_at_call 26; with_reducible refine (UX2.out _).mono ?_; rintro e w' ⟨rfl, hq⟩; have hcur := hcur.trans (hq.mono hcur.size); clear hq)
            )
        have HCUR := Lib.hid hcur
        clear hcur
        refine region_anyM mixedOrders ?_
        apply two_ways (α := Value) (β := Value) (γ := World) (E := fun w2 => Ext w'.drew w2)
        case main =>
          intro key
          refine anyM_two (i := 0) (j := 2) (o := ⟨some 86, _, _, _, _, _⟩) (o' := ⟨some 88, _, _, _, _, _⟩) (by kernel_rfl) rfl rfl (by rfl) (by rfl) (fun w2 hw2 => ⟨.slice (some ⟨w2.heap.size, 0, none⟩) 3 3, w2.alloc (.cells #[.int .u8 65, .int .u8 219, .int .u8 1] 5), run_build3 rfl _ _, (Below.refl _ _).alloc (Nat.le_refl _) _, ?_⟩) (fun w2 hw2 => ⟨.slice (some ⟨w2.heap.size, 0, none⟩) 29 29, w2.alloc (.cells #[.int .u8 0, .int .u8 0, .int .u8 0, .int .u8 0, .int .u8 0, .int .u8 0, .int .u8 0, .int .u8 0, .int .u8 0, .int .u8 0, .int .u8 0, .int .u8 0, .int .u8 0, .int .u8 0, .int .u8 0, .int .u8 0, .int .u8 0, .int .u8 0, .int .u8 0, .int .u8 0, .int .u8 0, .int .u8 0, .int .u8 0, .int .u8 0, .int .u8 0, .int .u8 0, .int .u8 0, .int .u8 0, .int .u8 0] 5), run_make29 rfl _ _, (Below.refl _ _).alloc (Nat.le_refl _) _, ?_⟩)
          all_goals simp only [Act.put, List.setIfInBounds_toArray, List.set_cons_succ, List.set_cons_zero]
          · skip
            refine anyM_take (i := 1) (oi := ⟨some 87, _, _, _, _, _⟩) (v := .string (strOf a24F 3)) rfl (by kernel_rfl) (by kernel_rfl) (by kernel_rfl) (fun _ _ _ h => h) (.inl ⟨by rfl, fun w4 hw4 => ?_⟩) ?_
            · have r : w4.heap[w2.heap.size]? = some (.cells #[.int .u8 65, .int .u8 219, .int .u8 1] 5 (0, 0)) := below_row hw4 (by simp) (heap_alloc_last _ _)
              exact quiet_run (quiet_of_run (C3.out _ _ (by rw [cell_of_row _ _ _ _ _ _ r]; rfl) (by rw [cell_of_row _ _ _ _ _ _ r]; rfl) (by rw [cell_of_row _ _ _ _ _ _ r]; rfl)))
            simp only [Act.put, List.setIfInBounds_toArray, List.set_cons_succ, List.set_cons_zero]
            refine anyM_only (i := 2) (o := ⟨some 88, _, _, _, _, _⟩) (by kernel_rfl) rfl (by rfl) (fun w5 hw5 => ⟨.slice (some ⟨w5.heap.size, 0, none⟩) 29 29, w5.alloc (.cells #[.int .u8 0, .int .u8 0, .int .u8 0, .int .u8 0, .int .u8 0, .int .u8 0, .int .u8 0, .int .u8 0, .int .u8 0, .int .u8 0, .int .u8 0, .int .u8 0, .int .u8 0, .int .u8 0, .int .u8 0, .int .u8 0, .int .u8 0, .int .u8 0, .int .u8 0, .int .u8 0, .int .u8 0, .int .u8 0, .int .u8 0, .int .u8 0, .int .u8 0, .int .u8 0, .int .u8 0, .int .u8 0, .int .u8 0] 5), run_make29 rfl _ _, (Below.refl _ _).alloc (Nat.le_refl _) _, ?_⟩)
            simp only [Act.put, List.setIfInBounds_toArray, List.set_cons_succ, List.set_cons_zero]
            refine anyM_take (i := 3) (oi := ⟨some 89, _, _, _, _, _⟩) (v := .string (strOf (fun _ => 0#8) 29)) rfl (by kernel_rfl) (by kernel_rfl) (by kernel_rfl) (fun _ _ _ h => h) (.inl ⟨by rfl, fun w4 hw4 => ?_⟩) ?_
            · have r : w4.heap[w5.heap.size]? = some (.cells #[.int .u8 0, .int .u8 0, .int .u8 0, .int .u8 0, .int .u8 0, .int .u8 0, .int .u8 0, .int .u8 0, .int .u8 0, .int .u8 0, .int .u8 0, .int .u8 0, .int .u8 0, .int .u8 0, .int .u8 0, .int .u8 0, .int .u8 0, .int .u8 0, .int .u8 0, .int .u8 0, .int .u8 0, .int .u8 0, .int .u8 0, .int .u8 0, .int .u8 0, .int .u8 0, .int .u8 0, .int .u8 0, .int .u8 0] 5 (0, 0)) := below_row hw4 (by simp) (heap_alloc_last _ _)
              exact quiet_run (quiet_of_run (C29.out _ _ (by rw [cell_of_row _ _ _ _ _ _ r]; rfl) (by rw [cell_of_row _ _ _ _ _ _ r]; rfl) (by rw [cell_of_row _ _ _ _ _ _ r]; rfl) (by rw [cell_of_row _ _ _ _ _ _ r]; rfl) (by rw [cell_of_row _ _ _ _ _ _ r]; rfl) (by rw [cell_of_row _ _ _ _ _ _ r]; rfl) (by rw [cell_of_row _ _ _ _ _ _ r]; rfl) (by rw [cell_of_row _ _ _ _ _ _ r]; rfl) (by rw [cell_of_row _ _ _ _ _ _ r]; rfl) (by rw [cell_of_row _ _ _ _ _ _ r]; rfl) (by rw [cell_of_row _ _ _ _ _ _ r]; rfl) (by rw [cell_of_row _ _ _ _ _ _ r]; rfl) (by rw [cell_of_row _ _ _ _ _ _ r]; rfl) (by rw [cell_of_row _ _ _ _ _ _ r]; rfl) (by rw [cell_of_row _ _ _ _ _ _ r]; rfl) (by rw [cell_of_row _ _ _ _ _ _ r]; rfl) (by rw [cell_of_row _ _ _ _ _ _ r]; rfl) (by rw [cell_of_row _ _ _ _ _ _ r]; rfl) (by rw [cell_of_row _ _ _ _ _ _ r]; rfl) (by rw [cell_of_row _ _ _ _ _ _ r]; rfl) (by rw [cell_of_row _ _ _ _ _ _ r]; rfl) (by rw [cell_of_row _ _ _ _ _ _ r]; rfl) (by rw [cell_of_row _ _ _ _ _ _ r]; rfl) (by rw [cell_of_row _ _ _ _ _ _ r]; rfl) (by rw [cell_of_row _ _ _ _ _ _ r]; rfl) (by rw [cell_of_row _ _ _ _ _ _ r]; rfl) (by rw [cell_of_row _ _ _ _ _ _ r]; rfl) (by rw [cell_of_row _ _ _ _ _ _ r]; rfl) (by rw [cell_of_row _ _ _ _ _ _ r]; rfl)))
            simp only [Act.put, List.setIfInBounds_toArray, List.set_cons_succ, List.set_cons_zero]
            refine anyM_take (i := 4) (oi := ⟨some 90, _, _, _, _, _⟩) (v := .string S_K) rfl (by kernel_rfl) (by kernel_rfl) (by kernel_rfl) (fun _ _ _ h => h) (.inl ⟨by rfl, fun w4 hw4 => ?_⟩) ?_
            · have sz := SZ.out
              have sm := SM2.out
              exact quiet_run (run_addstr rfl _ w4 (by rfl) (by rfl) sm)
            simp only [Act.put, List.setIfInBounds_toArray, List.set_cons_succ, List.set_cons_zero]
            refine anyM_take (i := 5) (oi := ⟨some 23, _, _, _, _, _⟩) (v := .string S_K) rfl (by kernel_rfl) (by kernel_rfl) (by kernel_rfl) (fun _ _ _ h => h) (.inl ⟨by rfl, fun w4 hw4 => ?_⟩) ?_
            · exact quiet_run (run_assign rfl _ w4 rfl)
            simp only [Act.put, List.setIfInBounds_toArray, List.set_cons_succ, List.set_cons_zero]
            refine anyM_done (by kernel_rfl) (fun w6 hw6 => ?_)
            have hx := ext_chain hw2 hw5 hw6
            generalize Value.slice (some ⟨w2.heap.size, 0, none⟩) 3 3 = vx
            generalize Value.slice (some ⟨w5.heap.size, 0, none⟩) 29 29 = vy
            exact key vx vy w6 hx
          · skip
            refine anyM_take (i := 3) (oi := ⟨some 89, _, _, _, _, _⟩) (v := .string (strOf (fun _ => 0#8) 29)) rfl (by kernel_rfl) (by kernel_rfl) (by kernel_rfl) (fun _ _ _ h => h) (.inl ⟨by rfl, fun w4 hw4 => ?_⟩) ?_
            · have r : w4.heap[w2.heap.size]? = some (.cells #[.int .u8 0, .int .u8 0, .int .u8 0, .int .u8 0, .int .u8 0, .int .u8 0, .int .u8 0, .int .u8 0, .int .u8 0, .int .u8 0, .int .u8 0, .int .u8 0, .int .u8 0, .int .u8 0, .int .u8 0, .int .u8 0, .int .u8 0, .int .u8 0, .int .u8 0, .int .u8 0, .int .u8 0, .int .u8 0, .int .u8 0, .int .u8 0, .int .u8 0, .int .u8 0, .int .u8 0, .int .u8 0, .int .u8 0] 5 (0, 0)) := below_row hw4 (by simp) (heap_alloc_last _ _)
              exact quiet_run (quiet_of_run (C29.out _ _ (by rw [cell_of_row _ _ _ _ _ _ r]; rfl) (by rw [cell_of_row _ _ _ _ _ _ r]; rfl) (by rw [cell_of_row _ _ _ _ _ _ r]; rfl) (by rw [cell_of_row _ _ _ _ _ _ r]; rfl) (by rw [cell_of_row _ _ _ _ _ _ r]; rfl) (by rw [cell_of_row _ _ _ _ _ _ r]; rfl) (by rw [cell_of_row _ _ _ _ _ _ r]; rfl) (by rw [cell_of_row _ _ _ _ _ _ r]; rfl) (by rw [cell_of_row _ _ _ _ _ _ r]; rfl) (by rw [cell_of_row _ _ _ _ _ _ r]; rfl) (by rw [cell_of_row _ _ _ _ _ _ r]; rfl) (by rw [cell_of_row _ _ _ _ _ _ r]; rfl) (by rw [cell_of_row _ _ _ _ _ _ r]; rfl) (by rw [cell_of_row _ _ _ _ _ _ r]; rfl) (by rw [cell_of_row _ _ _ _ _ _ r]; rfl) (by rw [cell_of_row _ _ _ _ _ _ r]; rfl) (by rw [cell_of_row _ _ _ _ _ _ r]; rfl) (by rw [cell_of_row _ _ _ _ _ _ r]; rfl) (by rw [cell_of_row _ _ _ _ _ _ r]; rfl) (by rw [cell_of_row _ _ _ _ _ _ r]; rfl) (by rw [cell_of_row _ _ _ _ _ _ r]; rfl) (by rw [cell_of_row _ _ _ _ _ _ r]; rfl) (by rw [cell_of_row _ _ _ _ _ _ r]; rfl) (by rw [cell_of_row _ _ _ _ _ _ r]; rfl) (by rw [cell_of_row _ _ _ _ _ _ r]; rfl) (by rw [cell_of_row _ _ _ _ _ _ r]; rfl) (by rw [cell_of_row _ _ _ _ _ _ r]; rfl) (by rw [cell_of_row _ _ _ _ _ _ r]; rfl) (by rw [cell_of_row _ _ _ _ _ _ r]; rfl)))
            simp only [Act.put, List.setIfInBounds_toArray, List.set_cons_succ, List.set_cons_zero]
            refine anyM_only (i := 0) (o := ⟨some 86, _, _, _, _, _⟩) (by kernel_rfl) rfl (by rfl) (fun w5 hw5 => ⟨.slice (some ⟨w5.heap.size, 0, none⟩) 3 3, w5.alloc (.cells #[.int .u8 65, .int .u8 219, .int .u8 1] 5), run_build3 rfl _ _, (Below.refl _ _).alloc (Nat.le_refl _) _, ?_⟩)
            simp only [Act.put, List.setIfInBounds_toArray, List.set_cons_succ, List.set_cons_zero]
            refine anyM_take (i := 1) (oi := ⟨some 87, _, _, _, _, _⟩) (v := .string (strOf a24F 3)) rfl (by kernel_rfl) (by kernel_rfl) (by kernel_rfl) (fun _ _ _ h => h) (.inl ⟨by rfl, fun w4 hw4 => ?_⟩) ?_
            · have r : w4.heap[w5.heap.size]? = some (.cells #[.int .u8 65, .int .u8 219, .int .u8 1] 5 (0, 0)) := below_row hw4 (by simp) (heap_alloc_last _ _)
              exact quiet_run (quiet_of_run (C3.out _ _ (by rw [cell_of_row _ _ _ _ _ _ r]; rfl) (by rw [cell_of_row _ _ _ _ _ _ r]; rfl) (by rw [cell_of_row _ _ _ _ _ _ r]; rfl)))
            simp only [Act.put, List.setIfInBounds_toArray, List.set_cons_succ, List.set_cons_zero]
            refine anyM_take (i := 4) (oi := ⟨some 90, _, _, _, _, _⟩) (v := .string S_K) rfl (by kernel_rfl) (by kernel_rfl) (by kernel_rfl) (fun _ _ _ h => h) (.inl ⟨by rfl, fun w4 hw4 => ?_⟩) ?_
            · have sz := SZ.out
              have sm := SM2.out
              exact quiet_run (run_addstr rfl _ w4 (by rfl) (by rfl) sm)
            simp only [Act.put, List.setIfInBounds_toArray, List.set_cons_succ, List.set_cons_zero]
            refine anyM_take (i := 5) (oi := ⟨some 23, _, _, _, _, _⟩) (v := .string S_K) rfl (by kernel_rfl) (by kernel_rfl) (by kernel_rfl) (fun _ _ _ h => h) (.inl ⟨by rfl, fun w4 hw4 => ?_⟩) ?_
            · exact quiet_run (run_assign rfl _ w4 rfl)
            simp only [Act.put, List.setIfInBounds_toArray, List.set_cons_succ, List.set_cons_zero]
            refine anyM_done (by kernel_rfl) (fun w6 hw6 => ?_)
            have hx := ext_chain hw2 hw5 hw6
            generalize Value.slice (some ⟨w5.heap.size, 0, none⟩) 3 3 = vx
            generalize Value.slice (some ⟨w2.heap.size, 0, none⟩) 29 29 = vy
            have key2 := key vx vy w6 hx
            with_reducible exact key2
        case key =>
          intro vx vy w6 hx
          have hcur := HCUR.out.trans ((Below.refl _ _).drew.trans (hx.mono (Nat.le_refl _)) |>.mono HCUR.out.size)
          go_upto_region 20 with (first
            | (go_at_call 26; with_reducible refine (UM.out _).mono ?_; rintro e w' ⟨rfl, hq⟩; have hcur := hcur.trans (hq.mono hcur.size); clear hq)
            | (go_at_call 24; with_reducible refine (UN.out _).mono ?_; rintro e w' ⟨rfl, hq⟩; have hcur := hcur.trans (hq.mono hcur.size); clear hq)
            | (go_at_call 26; with_reducible refine (UZ2.out _).mono ?_; rintro e w' ⟨rfl, hq⟩; have hcur := hcur.trans (hq.mono hcur.size); clear hq)
            )
          go_wp2_with fail
          go_roundw
          case rel => exact ⟨k + 1, by omega, by have := HJ.out; go_num, by rw [HSN.out, HN.out]; exact congrArg Value.string E1.out.symm, by rw [HSN.out, HN.out]; exact congrArg Value.string E2.out.symm, by rw [HSN.out, HN.out]; exact congrArg Value.string E3.out.symm, by rw [HSN.out, HN.out]; exact congrArg Value.string E4.out.symm, hcur⟩
          case measure => (have := HJ.out; simp [intOf] <;> omega)
      · obtain ⟨S_a, h_a⟩ : ∃ z, numS cc.val = z := ⟨_, rfl⟩
        obtain ⟨S_b, h_b⟩ : ∃ z, numS cd.val = z := ⟨_, rfl⟩
        obtain ⟨S_c, h_c⟩ : ∃ z, numS ca.val = z := ⟨_, rfl⟩
        obtain ⟨S_d, h_d⟩ : ∃ z, numS cb.val = z := ⟨_, rfl⟩
        obtain ⟨S_x, h_x⟩ : ∃ z, numS x.val = z := ⟨_, rfl⟩
        obtain ⟨S_K, h_K⟩ : ∃ z, numS Cv.k24.val = z := ⟨_, rfl⟩
        obtain ⟨A, q_A⟩ : ∃ z : Cv.F, cc + cd = z := ⟨_, rfl⟩
        obtain ⟨S_A, h_A⟩ : ∃ z, numS A.val = z := ⟨_, rfl⟩
        have U_A : R2 24 S_a S_b S_A := by have U := refAddF cc cd; rw [q_A, h_a, h_b, h_A] at U; exact U
        have UA := Lib.hid U_A
        clear U_A
        obtain ⟨B, q_B⟩ : ∃ z : Cv.F, cc - cd = z := ⟨_, rfl⟩
        obtain ⟨S_B, h_B⟩ : ∃ z, numS B.val = z := ⟨_, rfl⟩
        have U_B : R2 25 S_a S_b S_B := by have U := refSubF cc cd; rw [q_B, h_a, h_b, h_B] at U; exact U
        have UB := Lib.hid U_B
        clear U_B
        obtain ⟨C, q_C⟩ : ∃ z : Cv.F, ca + cb = z := ⟨_, rfl⟩
        obtain ⟨S_C, h_C⟩ : ∃ z, numS C.val = z := ⟨_, rfl⟩
        have U_C : R2 24 S_c S_d S_C := by have U := refAddF ca cb; rw [q_C, h_c, h_d, h_C] at U; exact U
        have UC := Lib.hid U_C
        clear U_C
        obtain ⟨D, q_D⟩ : ∃ z : Cv.F, ca - cb = z := ⟨_, rfl⟩
        obtain ⟨S_D, h_D⟩ : ∃ z, numS D.val = z := ⟨_, rfl⟩
        have U_D : R2 25 S_c S_d S_D := by have U := refSubF ca cb; rw [q_D, h_c, h_d, h_D] at U; exact U
        have UD := Lib.hid U_D
        clear U_D
        obtain ⟨DA, q_DA⟩ : ∃ z : Cv.F, D * A = z := ⟨_, rfl⟩
        obtain ⟨S_DA, h_DA⟩ : ∃ z, numS DA.val = z := ⟨_, rfl⟩
        have U_DA : R2 26 S_D S_A S_DA := by have U := refMulF D A; rw [q_DA, h_D, h_A, h_DA] at U; exact U
        have UDA := Lib.hid U_DA
        clear U_DA
        obtain ⟨CB, q_CB⟩ : ∃ z : Cv.F, C * B = z := ⟨_, rfl⟩
        obtain ⟨S_CB, h_CB⟩ : ∃ z, numS CB.val = z := ⟨_, rfl⟩
        have U_CB : R2 26 S_C S_B S_CB := by have U := refMulF C B; rw [q_CB, h_C, h_B, h_CB] at U; exact U
        have UCB := Lib.hid U_CB
        clear U_CB
        obtain ⟨AA, q_AA⟩ : ∃ z : Cv.F, A * A = z := ⟨_, rfl⟩
        obtain ⟨S_AA, h_AA⟩ : ∃ z, numS AA.val = z := ⟨_, rfl⟩
        have U_AA : R2 26 S_A S_A S_AA := by have U := refMulF A A; rw [q_AA, h_A, h_AA] at U; exact U
        have UAA := Lib.hid U_AA
        clear U_AA
        obtain ⟨BB, q_BB⟩ : ∃ z : Cv.F, B * B = z := ⟨_, rfl⟩
        obtain ⟨S_BB, h_BB⟩ : ∃ z, numS BB.val = z := ⟨_, rfl⟩
        have U_BB : R2 26 S_B S_B S_BB := by have U := refMulF B B; rw [q_BB, h_B, h_BB] at U; exact U
        have UBB := Lib.hid U_BB
        clear U_BB
        obtain ⟨E, q_E⟩ : ∃ z : Cv.F, AA - BB = z := ⟨_, rfl⟩
        obtain ⟨S_E, h_E⟩ : ∃ z, numS E.val = z := ⟨_, rfl⟩
        have U_E : R2 25 S_AA S_BB S_E := by have U := refSubF AA BB; rw [q_E, h_AA, h_BB, h_E] at U; exact U
        have UE := Lib.hid U_E
        clear U_E
        obtain ⟨SU, q_SU⟩ : ∃ z : Cv.F, DA + CB = z := ⟨_, rfl⟩
        obtain ⟨S_SU, h_SU⟩ : ∃ z, numS SU.val = z := ⟨_, rfl⟩
        have U_SU : R2 24 S_DA S_CB S_SU := by have U := refAddF DA CB; rw [q_SU, h_DA, h_CB, h_SU] at U; exact U
        have USU := Lib.hid U_SU
        clear U_SU
        obtain ⟨DI, q_DI⟩ : ∃ z : Cv.F, DA - CB = z := ⟨_, rfl⟩
        obtain ⟨S_DI, h_DI⟩ : ∃ z, numS DI.val = z := ⟨_, rfl⟩
        have U_DI : R2 25 S_DA S_CB S_DI := by have U := refSubF DA CB; rw [q_DI, h_DA, h_CB, h_DI] at U; exact U
        have UDI := Lib.hid U_DI
        clear U_DI
        obtain ⟨X3, q_X3⟩ : ∃ z : Cv.F, SU * SU = z := ⟨_, rfl⟩
        obtain ⟨S_X3, h_X3⟩ : ∃ z, numS X3.val = z := ⟨_, rfl⟩
        have U_X3 : R2 26 S_SU S_SU S_X3 := by have U := refMulF SU SU; rw [q_X3, h_SU, h_X3] at U; exact U
        have UX3 := Lib.hid U_X3
        clear U_X3
        obtain ⟨DD, q_DD⟩ : ∃ z : Cv.F, DI * DI = z := ⟨_, rfl⟩
        obtain ⟨S_DD, h_DD⟩ : ∃ z, numS DD.val = z := ⟨_, rfl⟩
        have U_DD : R2 26 S_DI S_DI S_DD := by have U := refMulF DI DI; rw [q_DD, h_DI, h_DD] at U; exact U
        have UDD := Lib.hid U_DD
        clear U_DD
        obtain ⟨Z3, q_Z3⟩ : ∃ z : Cv.F, x * DD = z := ⟨_, rfl⟩
        obtain ⟨S_Z3, h_Z3⟩ : ∃ z, numS Z3.val = z := ⟨_, rfl⟩
        have U_Z3 : R2 26 S_x S_DD S_Z3 := by have U := refMulF x DD; rw [q_Z3, h_x, h_DD, h_Z3] at U; exact U
        have UZ3 := Lib.hid U_Z3
        clear U_Z3
        obtain ⟨X2, q_X2⟩ : ∃ z : Cv.F, AA * BB = z := ⟨_, rfl⟩
        obtain ⟨S_X2, h_X2⟩ : ∃ z, numS X2.val = z := ⟨_, rfl⟩
        have U_X2 : R2 26 S_AA S_BB S_X2 := by have U := refMulF AA BB; rw [q_X2, h_AA, h_BB, h_X2] at U; exact U
        have UX2 := Lib.hid U_X2
        clear U_X2
        obtain ⟨M, q_M⟩ : ∃ z : Cv.F, Cv.k24 * E = z := ⟨_, rfl⟩
        obtain ⟨S_M, h_M⟩ : ∃ z, numS M.val = z := ⟨_, rfl⟩
        have U_M : R2 26 S_K S_E S_M := by have U := refMulF Cv.k24 E; rw [q_M, h_K, h_E, h_M] at U; exact U
        have UM := Lib.hid U_M
        clear U_M
        obtain ⟨N, q_N⟩ : ∃ z : Cv.F, AA + M = z := ⟨_, rfl⟩
        obtain ⟨S_N, h_N⟩ : ∃ z, numS N.val = z := ⟨_, rfl⟩
        have U_N : R2 24 S_AA S_M S_N := by have U := refAddF AA M; rw [q_N, h_AA, h_M, h_N] at U; exact U
        have UN := Lib.hid U_N
        clear U_N
        obtain ⟨Z2, q_Z2⟩ : ∃ z : Cv.F, E * N = z := ⟨_, rfl⟩
        obtain ⟨S_Z2, h_Z2⟩ : ∃ z, numS Z2.val = z := ⟨_, rfl⟩
        have U_Z2 : R2 26 S_E S_N S_Z2 := by have U := refMulF E N; rw [q_Z2, h_E, h_N, h_Z2] at U; exact U
        have UZ2 := Lib.hid U_Z2
        clear U_Z2
        have HN : sn = ⟨X3, Z3, X2, Z2⟩ := by
          rw [hs]
          show Cv.sw true (Cv.step x ⟨cc, cd, ca, cb⟩) = _
          unfold Cv.step Cv.sw
          dsimp only
          rw [q_A, q_B, q_C, q_D, q_DA, q_CB, q_AA, q_BB, q_E, q_SU, q_DI, q_X3, q_DD, q_Z3, q_X2, q_M, q_N, q_Z2]
          rfl
        rw [h_a, h_b, h_c, h_d, h_x]
        have SM2 := SM.out
        rw [h_K] at SM2
        have SM2 := Lib.hid SM2
        have E1 := Lib.hid h_X2; have E2 := Lib.hid h_Z2; have E3 := Lib.hid h_X3; have E4 := Lib.hid h_Z3; have HN := Lib.hid HN
        clear hs q_A h_A q_B h_B q_C h_C q_D h_D q_DA h_DA q_CB h_CB q_AA h_AA q_BB h_BB q_E h_E q_SU h_SU q_DI h_DI q_X3 h_X3 q_DD h_DD q_Z3 h_Z3 q_X2 h_X2 q_M h_M q_N h_N q_Z2 h_Z2 h_a h_b h_c h_d h_x
        have C3' := C3.out; have C29' := C29.out; have MK' := MK.out; have SZ' := SZ.out; have SM' := SM2.out
        clear C3' C29' MK' SZ' SM'
        go_upto_region 10 with (go_at_call 23; with_reducible refine (UJ.out _).mono ?_; rintro e w' ⟨rfl, rfl⟩)
        go_upto_region 11 with (first
            | (go_at_call 24; with_reducible refine (UA.out _).mono ?_; rintro e w' ⟨rfl, hq⟩; have hcur := hcur.trans (hq.mono hcur.size); clear hq)
            | (go_at_call 25; with_reducible refine (UB.out _).mono ?_; rintro e w' ⟨rfl, hq⟩; have hcur := hcur.trans (hq.mono hcur.size); clear hq)
            )
        go_upto_region 12 with (first
            | (go_at_call 24; with_reducible refine (UC.out _).mono ?_; rintro e w' ⟨rfl, hq⟩; have hcur := hcur.trans (hq.mono hcur.size); clear hq)
            | (go_at_call 25; with_reducible refine (UD.out _).mono ?_; rintro e w' ⟨rfl, hq⟩; have hcur := hcur.trans (hq.mono hcur.size); clear hq)
            )
        go_upto_region 13 with (first
            | (go_at_call 26; with_reducible refine (UDA.out _).mono ?_; rintro e w' ⟨rfl, hq⟩; have hcur := hcur.trans (hq.mono hcur.size); clear hq)
            | (go_at_call 26; with_reducible refine (UCB.out _).mono ?_; rintro e w' ⟨rfl, hq⟩; have hcur := hcur.trans (hq.mono hcur.size); clear hq)
            )
        go_upto_region 14 with (first
            | (go_at_call 26; with_reducible refine (UAA.out _).mono ?_; rintro e w' ⟨rfl, hq⟩; have hcur := hcur.trans (hq.mono hcur.size); clear hq)
            | (go_at_call 26; with_reducible refine (UBB.out _).mono ?_; rintro e w' ⟨rfl, hq⟩; have hcur := hcur.trans (hq.mono hcur.size); clear hq)
            )
        go_upto_region 15 with (first
            | (go_at_call 25; with_reducible refine (UE.out _).mono ?_; rintro e w' ⟨rfl, hq⟩; have hcur := hcur.trans (hq.mono hcur.size); clear hq)
            )
        go_upto_region 16 with (first
            | (go_at_call 24; with_reducible refine (USU.out _).mono ?_; rintro e w' ⟨rfl, hq⟩; have hcur := hcur.trans (hq.mono hcur.size); clear hq)
            | (go_at_call 25; with_reducible refine (UDI.out _).mono ?_; rintro e w' ⟨rfl, hq⟩; have hcur := hcur.trans (hq.mono hcur.size); clear hq)
            )
        go_upto_region 17 with (first
            | (go_at_call 26; with_reducible refine (UX3.out _).mono ?_; rintro e w' ⟨rfl, hq⟩; have hcur := hcur.trans (hq.mono hcur.size); clear hq)
            | (go_at_call 26; with_reducible refine (UDD.out _).mono ?_; rintro e w' ⟨rfl, hq⟩; have hcur := hcur.trans (hq.mono hcur.size); clear hq)
            | (go_at_call 26; with_reducible refine (UZ3.out _).mono ?_; rintro e w' ⟨rfl, hq⟩; have hcur := hcur.trans (hq.mono hcur.size); clear hq)
            )
        go_upto_region 18 with (first
            | (go_at_call 26; with_reducible refine (UX2.out _).mono ?_; rintro e w' ⟨rfl, hq⟩; have hcur := hcur.trans (hq.mono hcur.size); clear hq)
            )
        have HCUR := Lib.hid hcur
        clear hcur
        refine region_anyM mixedOrders ?_
        apply two_ways (α := Value) (β := Value) (γ := World) (E := fun w2 => Ext w'.drew w2)
        case main =>
          intro key
          refine anyM_two (i := 0) (j := 2) (o := ⟨some 86, _, _, _, _, _⟩) (o' := ⟨some 88, _, _, _, _, _⟩) (by kernel_rfl) rfl rfl (by rfl) (by rfl) (fun w2 hw2 => ⟨.slice (some ⟨w2.heap.size, 0, none⟩) 3 3, w2.alloc (.cells #[.int .u8 65, .int .u8 219, .int .u8 1] 5), run_build3 rfl _ _, (Below.refl _ _).alloc (Nat.le_refl _) _, ?_⟩) (fun w2 hw2 => ⟨.slice (some ⟨w2.heap.size, 0, none⟩) 29 29, w2.alloc (.cells #[.int .u8 0, .int .u8 0, .int .u8 0, .int .u8 0, .int .u8 0, .int .u8 0, .int .u8 0, .int .u8 0, .int .u8 0, .int .u8 0, .int .u8 0, .int .u8 0, .int .u8 0, .int .u8 0, .int .u8 0, .int .u8 0, .int .u8 0, .int .u8 0, .int .u8 0, .int .u8 0, .int .u8 0, .int .u8 0, .int .u8 0, .int .u8 0, .int .u8 0, .int .u8 0, .int .u8 0, .int .u8 0, .int .u8 0] 5), run_make29 rfl _ _, (Below.refl _ _).alloc (Nat.le_refl _) _, ?_⟩)
          all_goals simp only [Act.put, List.setIfInBounds_toArray, List.set_cons_succ, List.set_cons_zero]
          · skip
            refine anyM_take (i := 1) (oi := ⟨some 87, _, _, _, _, _⟩) (v := .string (strOf a24F 3)) rfl (by kernel_rfl) (by kernel_rfl) (by kernel_rfl) (fun _ _ _ h => h) (.inl ⟨by rfl, fun w4 hw4 => ?_⟩) ?_
            · have r : w4.heap[w2.heap.size]? = some (.cells #[.int .u8 65, .int .u8 219, .int .u8 1] 5 (0, 0)) := below_row hw4 (by simp) (heap_alloc_last _ _)
              exact quiet_run (quiet_of_run (C3.out _ _ (by rw [cell_of_row _ _ _ _ _ _ r]; rfl) (by rw [cell_of_row _ _ _ _ _ _ r]; rfl) (by rw [cell_of_row _ _ _ _ _ _ r]; rfl)))
            simp only [Act.put, List.setIfInBounds_toArray, List.set_cons_succ, List.set_cons_zero]
            refine anyM_only (i := 2) (o := ⟨some 88, _, _, _, _, _⟩) (by kernel_rfl) rfl (by rfl) (fun w5 hw5 => ⟨.slice (some ⟨w5.heap.size, 0, none⟩) 29 29, w5.alloc (.cells #[.int .u8 0, .int .u8 0, .int .u8 0, .int .u8 0, .int .u8 0, .int .u8 0, .int .u8 0, .int .u8 0, .int .u8 0, .int .u8 0, .int .u8 0, .int .u8 0, .int .u8 0, .int .u8 0, .int .u8 0, .int .u8 0, .int .u8 0, .int .u8 0, .int .u8 0, .int .u8 0, .int .u8 0, .int .u8 0, .int .u8 0, .int .u8 0, .int .u8 0, .int .u8 0, .int .u8 0, .int .u8 0, .int .u8 0] 5), run_make29 rfl _ _, (Below.refl _ _).alloc (Nat.le_refl _) _, ?_⟩)
            simp only [Act.put, List.setIfInBounds_toArray, List.set_cons_succ, List.set_cons_zero]
            refine anyM_take (i := 3) (oi := ⟨some 89, _, _, _, _, _⟩) (v := .string (strOf (fun _ => 0#8) 29)) rfl (by kernel_rfl) (by kernel_rfl) (by kernel_rfl) (fun _ _ _ h => h) (.inl ⟨by rfl, fun w4 hw4 => ?_⟩) ?_
            · have r : w4.heap[w5.heap.size]? = some (.cells #[.int .u8 0, .int .u8 0, .int .u8 0, .int .u8 0, .int .u8 0, .int .u8 0, .int .u8 0, .int .u8 0, .int .u8 0, .int .u8 0, .int .u8 0, .int .u8 0, .int .u8 0, .int .u8 0, .int .u8 0, .int .u8 0, .int .u8 0, .int .u8 0, .int .u8 0, .int .u8 0, .int .u8 0, .int .u8 0, .int .u8 0, .int .u8 0, .int .u8 0, .int .u8 0, .int .u8 0, .int .u8 0, .int .u8 0] 5 (0, 0)) := below_row hw4 (by simp) (heap_alloc_last _ _)
              exact quiet_run (quiet_of_run (C29.out _ _ (by rw [cell_of_row _ _ _ _ _ _ r]; rfl) (by rw [cell_of_row _ _ _ _ _ _ r]; rfl) (by rw [cell_of_row _ _ _ _ _ _ r]; rfl) (by rw [cell_of_row _ _ _ _ _ _ r]; rfl) (by rw [cell_of_row _ _ _ _ _ _ r]; rfl) (by rw [cell_of_row _ _ _ _ _ _ r]; rfl) (by rw [cell_of_row _ _ _ _ _ _ r]; rfl) (by rw [cell_of_row _ _ _ _ _ _ r]; rfl) (by rw [cell_of_row _ _ _ _ _ _ r]; rfl) (by rw [cell_of_row _ _ _ _ _ _ r]; rfl) (by rw [cell_of_row _ _ _ _ _ _ r]; rfl) (by rw [cell_of_row _ _ _ _ _ _ r]; rfl) (by rw [cell_of_row _ _ _ _ _ _ r]; rfl) (by rw [cell_of_row _ _ _ _ _ _ r]; rfl) (by rw [cell_of_row _ _ _ _ _ _ r]; rfl) (by rw [cell_of_row _ _ _ _ _ _ r]; rfl) (by rw [cell_of_row _ _ _ _ _ _ r]; rfl) (by rw [cell_of_row _ _ _ _ _ _ r]; rfl) (by rw [cell_of_row _ _ _ _ _ _ r]; rfl) (by rw [cell_of_row _ _ _ _ _ _ r]; rfl) (by rw [cell_of_row _ _ _ _ _ _ r]; rfl) (by rw [cell_of_row _ _ _ _ _ _ r]; rfl) (by rw [cell_of_row _ _ _ _ _ _ r]; rfl) (by rw [cell_of_row _ _ _ _ _ _ r]; rfl) (by rw [cell_of_row _ _ _ _ _ _ r]; rfl) (by rw [cell_of_row _ _ _ _ _ _ r]; rfl) (by rw [cell_of_row _ _ _ _ _ _ r]; rfl) (by rw [cell_of_row _ _ _ _ _ _ r]; rfl) (by rw [cell_of_row _ _ _ _ _ _ r]; rfl)))
            simp only [Act.put, List.setIfInBounds_toArray, List.set_cons_succ, List.set_cons_zero]
            refine anyM_take (i := 4) (oi := ⟨some 90, _, _, _, _, _⟩) (v := .string S_K) rfl (by kernel_rfl) (by kernel_rfl) (by kernel_rfl) (fun _ _ _ h => h) (.inl ⟨by rfl, fun w4 hw4 => ?_⟩) ?_
            · have sz := SZ.out
              have sm := SM2.out
              exact quiet_run (run_addstr rfl _ w4 (by rfl) (by rfl) sm)
            simp only [Act.put, List.setIfInBounds_toArray, List.set_cons_succ, List.set_cons_zero]
            refine anyM_take (i := 5) (oi := ⟨some 23, _, _, _, _, _⟩) (v := .string S_K) rfl (by kernel_rfl) (by kernel_rfl) (by kernel_rfl) (fun _ _ _ h => h) (.inl ⟨by rfl, fun w4 hw4 => ?_⟩) ?_
            · exact quiet_run (run_assign rfl _ w4 rfl)
            simp only [Act.put, List.setIfInBounds_toArray, List.set_cons_succ, List.set_cons_zero]
            refine anyM_done (by kernel_rfl) (fun w6 hw6 => ?_)
            have hx := ext_chain hw2 hw5 hw6
            generalize Value.slice (some ⟨w2.heap.size, 0, none⟩) 3 3 = vx
            generalize Value.slice (some ⟨w5.heap.size, 0, none⟩) 29 29 = vy
            exact key vx vy w6 hx
          · skip
            refine anyM_take (i := 3) (oi := ⟨some 89, _, _, _, _, _⟩) (v := .string (strOf (fun _ => 0#8) 29)) rfl (by kernel_rfl) (by kernel_rfl) (by kernel_rfl) (fun _ _ _ h => h) (.inl ⟨by rfl, fun w4 hw4 => ?_⟩) ?_
            · have r : w4.heap[w2.heap.size]? = some (.cells #[.int .u8 0, .int .u8 0, .int .u8 0, .int .u8 0, .int .u8 0, .int .u8 0, .int .u8 0, .int .u8 0, .int .u8 0, .int .u8 0, .int .u8 0, .int .u8 0, .int .u8 0, .int .u8 0, .int .u8 0, .int .u8 0, .int .u8 0, .int .u8 0, .int .u8 0, .int .u8 0, .int .u8 0, .int .u8 0, .int .u8 0, .int .u8 0, .int .u8 0, .int .u8 0, .int .u8 0, .int .u8 0, .int .u8 0] 5 (0, 0)) := below_row hw4 (by simp) (heap_alloc_last _ _)
              exact quiet_run (quiet_of_run (C29.out _ _ (by rw [cell_of_row _ _ _ _ _ _ r]; rfl) (by rw [cell_of_row _ _ _ _ _ _ r]; rfl) (by rw [cell_of_row _ _ _ _ _ _ r]; rfl) (by rw [cell_of_row _ _ _ _ _ _ r]; rfl) (by rw [cell_of_row _ _ _ _ _ _ r]; rfl) (by rw [cell_of_row _ _ _ _ _ _ r]; rfl) (by rw [cell_of_row _ _ _ _ _ _ r]; rfl) (by rw [cell_of_row _ _ _ _ _ _ r]; rfl) (by rw [cell_of_row _ _ _ _ _ _ r]; rfl) (by rw [cell_of_row _ _ _ _ _ _ r]; rfl) (by rw [cell_of_row _ _ _ _ _ _ r]; rfl) (by rw [cell_of_row _ _ _ _ _ _ r]; rfl) (by rw [cell_of_row _ _ _ _ _ _ r]; rfl) (by rw [cell_of_row _ _ _ _ _ _ r]; rfl) (by rw [cell_of_row _ _ _ _ _ _ r]; rfl) (by rw [cell_of_row _ _ _ _ _ _ r]; rfl) (by rw [cell_of_row _ _ _ _ _ _ r]; rfl) (by rw [cell_of_row _ _ _ _ _ _ r]; rfl) (by rw [cell_of_row _ _ _ _ _ _ r]; rfl) (by rw [cell_of_row _ _ _ _ _ _ r]; rfl) (by rw [cell_of_row _ _ _ _ _ _ r]; rfl) (by rw [cell_of_row _ _ _ _ _ _ r]; rfl) (by rw [cell_of_row _ _ _ _ _ _ r]; rfl) (by rw [cell_of_row _ _ _ _ _ _ r]; rfl) (by rw [cell_of_row _ _ _ _ _ _ r]; rfl) (by rw [cell_of_row _ _ _ _ _ _ r]; rfl) (by rw [cell_of_row _ _ _ _ _ _ r]; rfl) (by rw [cell_of_row _ _ _ _ _ _ r]; rfl) (by rw [cell_of_row _ _ _ _ _ _ r]; rfl)))
            simp only [Act.put, List.setIfInBounds_toArray, List.set_cons_succ, List.set_cons_zero]
            refine anyM_only (i := 0) (o := ⟨some 86, _, _, _, _, _⟩) (by kernel_rfl) rfl (by rfl) (fun w5 hw5 => ⟨.slice (some ⟨w5.heap.size, 0, none⟩) 3 3, w5.alloc (.cells #[.int .u8 65, .int .u8 219, .int .u8 1] 5), run_build3 rfl _ _, (Below.refl _ _).alloc (Nat.le_refl _) _, ?_⟩)
            simp only [Act.put, List.setIfInBounds_toArray, List.set_cons_succ, List.set_cons_zero]
            refine anyM_take (i := 1) (oi := ⟨some 87, _, _, _, _, _⟩) (v := .string (strOf a24F 3)) rfl (by kernel_rfl) (by kernel_rfl) (by kernel_rfl) (fun _ _ _ h => h) (.inl ⟨by rfl, fun w4 hw4 => ?_⟩) ?_
            · have r : w4.heap[w5.heap.size]? = some (.cells #[.int .u8 65, .int .u8 219, .int .u8 1] 5 (0, 0)) := below_row hw4 (by simp) (heap_alloc_last _ _)
              exact quiet_run (quiet_of_run (C3.out _ _ (by rw [cell_of_row _ _ _ _ _ _ r]; rfl) (by rw [cell_of_row _ _ _ _ _ _ r]; rfl) (by rw [cell_of_row _ _ _ _ _ _ r]; rfl)))
            simp only [Act.put, List.setIfInBounds_toArray, List.set_cons_succ, List.set_cons_zero]
            refine anyM_take (i := 4) (oi := ⟨some 90, _, _, _, _, _⟩) (v := .string S_K) rfl (by kernel_rfl) (by kernel_rfl) (by kernel_rfl) (fun _ _ _ h => h) (.inl ⟨by rfl, fun w4 hw4 => ?_⟩) ?_
            · have sz := SZ.out
              have sm := SM2.out
              exact quiet_run (run_addstr rfl _ w4 (by rfl) (by rfl) sm)
            simp only [Act.put, List.setIfInBounds_toArray, List.set_cons_succ, List.set_cons_zero]
            refine anyM_take (i := 5) (oi := ⟨some 23, _, _, _, _, _⟩) (v := .string S_K) rfl (by kernel_rfl) (by kernel_rfl) (by kernel_rfl) (fun _ _ _ h => h) (.inl ⟨by rfl, fun w4 hw4 => ?_⟩) ?_
            · exact quiet_run (run_assign rfl _ w4 rfl)
            simp only [Act.put, List.setIfInBounds_toArray, List.set_cons_succ, List.set_cons_zero]
            refine anyM_done (by kernel_rfl) (fun w6 hw6 => ?_)
            have hx := ext_chain hw2 hw5 hw6
            generalize Value.slice (some ⟨w5.heap.size, 0, none⟩) 3 3 = vx
            generalize Value.slice (some ⟨w2.heap.size, 0, none⟩) 29 29 = vy
            have key2 := key vx vy w6 hx
            with_reducible exact key2
        case key =>
          intro vx vy w6 hx
          have hcur := HCUR.out.trans ((Below.refl _ _).drew.trans (hx.mono (Nat.le_refl _)) |>.mono HCUR.out.size)
          go_upto_region 20 with (first
            | (go_at_call 26; with_reducible refine (UM.out _).mono ?_; rintro e w' ⟨rfl, hq⟩; have hcur := hcur.trans (hq.mono hcur.size); clear hq)
            | (go_at_call 24; with_reducible refine (UN.out _).mono ?_; rintro e w' ⟨rfl, hq⟩; have hcur := hcur.trans (hq.mono hcur.size); clear hq)
            | (go_at_call 26; with_reducible refine (UZ2.out _).mono ?_; rintro e w' ⟨rfl, hq⟩; have hcur := hcur.trans (hq.mono hcur.size); clear hq)
            )
          go_wp2_with fail
          go_roundw
          case rel => exact ⟨k + 1, by omega, by have := HJ.out; go_num, by rw [HSN.out, HN.out]; exact congrArg Value.string E3.out.symm, by rw [HSN.out, HN.out]; exact congrArg Value.string E4.out.symm, by rw [HSN.out, HN.out]; exact congrArg Value.string E1.out.symm, by rw [HSN.out, HN.out]; exact congrArg Value.string E2.out.symm, hcur⟩
          case measure => (have := HJ.out; simp [intOf] <;> omega)
    · obtain rfl : k = 255 := by omega
      have hneg : (254 : Int) - ((255 : Nat) : Int) = -1 := by decide
      rw [hneg]
      obtain ⟨sz, hsz⟩ : ∃ sz, Cv.st x bits 255 = sz := ⟨_, rfl⟩
      have HS : Hid (sz.a * Cv.inv sz.b = Cv.out x bits) := Lib.hid (by unfold Cv.out; rw [hsz])
      rw [hsz]
      clear hsz
      go_wp2_with (first
        | (go_at_call 27; with_reducible refine (refInvF _ _).mono ?_; rintro e w1 ⟨rfl, hq⟩; have hcur := hcur.trans (hq.mono hcur.size); clear hq)
        | (go_at_call 26; with_reducible refine (refMulF _ _ _).mono ?_; rintro e w1 ⟨rfl, hq⟩; have hcur := hcur.trans (hq.mono hcur.size); clear hq))
      go_ret
      refine ⟨?_, hcur⟩
      rw [HS.out, HO.out]
      rfl

end Go.Proofs.Ytmfiabkhnoimhaa
