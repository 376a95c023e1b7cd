/-
  FieldRuns holds: in rows of any steps the number is that of the same steps modulo p, as the document does them. No conditions.
-/
import Derived.Test.YtjaneododongeaaRows
import Derived.Test.YtjaneododongeaaNew
import Derived.Test.YtjaneododongeaaFast
import Derived.Test.YtjaneododongeaaFieldRefH
import Derived.WalkKit
import Derived.ProofKit
import Derived.OpenShut
import Derived.ShutString
import Derived.ChangeOld
import Derived.Below
import Derived.Deep.DeepCutAuto
import Derived.Deep.Upon
import Derived.Deep.AppendSrc
import Derived.SizedLaws
namespace Go.Proofs.Ytjaneododongeaa.fieldRuns
open Go Go.ChangeShapes Go.WideShapes Go.ChangeAt Go.RowKit Go.BigFrame
set_option linter.unusedVariables false
theorem own : ownKnob Try.prog.godebug = none := by kernel_rfl
theorem laidOut : laidOutB Try.prog = true := by kernel_rfl
def zeros5 : Array Value := #[.int .u64 0, .int .u64 0, .int .u64 0, .int .u64 0, .int .u64 0]
theorem cancel_mod {a b c : Nat} (h : (a + c) % E5.p = (b + c) % E5.p) : a % E5.p = b % E5.p := by
  unfold E5.p at *
  omega
theorem quiet_run {P : Program} {C : World → Prop} {o : Oper} {a : Act} {w : World} {v : Value} (h : (execOp a.eval o).run P w = .ok (.value v) w) : o.quietAt P a C w v := by
  unfold Oper.quietAt
  rw [h]
  exact ⟨rfl, rfl⟩
theorem quiet_of_run {P : Program} {x : Sem Value} {v : Value} {w : World} (h : x.run P w = .ok v w) : (x >>= fun v => pure (Next.value v)).run P w = .ok (.value v) w := by
  rw [Sem.run_bind, h]; rfl
theorem sub_num {X Y : E5} (oX : E5.Ok X) (oY : E5.Ok Y) {a b : Nat} (ha : X.val % E5.p = a) (hb : Y.val % E5.p = b) : (X.sub Y).val % E5.p = (a + E5.p - b) % E5.p := by
  have h1 : a < E5.p := by rw [← ha]; exact Nat.mod_lt _ p_pos
  have h2 : b < E5.p := by rw [← hb]; exact Nat.mod_lt _ p_pos
  refine Eq.trans (cancel_mod (c := b) ?_) (Nat.mod_mod _ _)
  have h3 : a + E5.p - b + b = a + E5.p := by omega
  rw [Nat.mod_add_mod, h3, Nat.add_mod_right, ← hb, Nat.add_mod_mod, (E5.sub_ok oX oY).2, ha, Nat.mod_eq_of_lt (by omega : a < E5.p)]
set_option maxHeartbeats 40000000 in
set_option maxRecDepth 100000 in
theorem law_any (f0 : Nat → BitVec 8) (ad : Option Addr) (n c : Nat) (f : Nat → Int) (F : Nat → Nat → BitVec 8) (w : World) (h : OpsIn w ad n f F) (hn : n ≤ c) (hc : c ≤ maxLen) :
    Calls Try.prog 6 #[.agg (b32 f0), .slice ad n c] w fun e w' => e = .returned (.bool true) ∧ Below w.heap.size w w' := by
  have hn63 : n ≤ 9223372036854775807 := by unfold maxLen at hc; omega
  go_enter Try.func6, Try.ntmps6
  go_wp2_with fail
  have R0 : (w.alloc (.cells (b32 f0) 22)).heap[w.heap.size]? = some (.cells (b32 f0) 22 (0, 0)) := heap_alloc_last _ _
  have hb0 : Below w.heap.size w (w.alloc (.cells (b32 f0) 22)) := below_new _
  generalize hW : w.alloc _ = wa at *
  clear hW
  refine (wraps_any _).mono ?_
  rintro e w1 ⟨rfl, hb1⟩
  have R1 := below_row hb1 (lt_of_heap R0) R0
  have B1 := hb0.trans (hb1.mono hb0.size)
  clear hb1 hb0 R0 wa
  have H0 := Lib.hid R1; have HB := Lib.hid B1; have HS := Lib.hid (lt_of_heap R1)
  clear R1 B1
  go_wp2_with fail
  have C0 : Hid (∀ w' : World, Below w1.heap.size w1 w' → (convert 29 9 (.slice (some ⟨w.heap.size, 0, none⟩) 32 32)).run Try.prog w' = .ok (.string (strOf f0 32)) w') :=
    Lib.hid (fun w' h => conv_str f0 w.heap.size 0 32 32 w' (fun i hi => by rw [cell_of_row _ _ _ _ _ _ (below_row h HS.out H0.out), Nat.zero_add]; exact b32_get _ i hi))
  refine region_news 6 (fun _ => zeros5) [(5, 5)] mixedOrders (by kernel_rfl) (by kernel_rfl) (zero_one (T := 26) (by kernel_rfl) (by kernel_rfl)) ?_
  refine wpNew_step rfl (fun K hK => ⟨.agg (b32 f0), fun w' hw' => quiet_load_row 22 _ rfl w.heap.size rfl _ _ (0, 0) _ (below_row hw' HS.out H0.out) Try.underlying22 rfl (by rw [b32_size]; kernel_rfl), hK _ ?_⟩)
  clear hK K
  refine wpNew_step rfl (fun K hK => ⟨(E5.of f0).v, fun w' hw' => ?_, hK _ ?_⟩)
  · go_simp
    go_at_call 8
    exact ofE_any f0 w'
  clear hK K
  refine wpNew_step rfl (fun K hK => ⟨.slice (some ⟨w.heap.size, 0, none⟩) 32 32, fun w' hw' => quiet_run (quiet_of_run (arr32 w.heap.size w')), hK _ ?_⟩)
  clear hK K
  refine wpNew_step rfl (fun K hK => ⟨.string (strOf f0 32), fun w' hw' => quiet_run (quiet_of_run (C0.out w' (((Below.refl _ _).drew).trans hw'))), hK _ ?_⟩)
  clear hK K
  refine wpNew_step rfl (fun K hK => ⟨.string (numS (E5.num f0 32 % 2 ^ 255 % E5.p)), fun w' hw' => ?_, hK _ ?_⟩)
  · go_simp
    go_at_call 9
    exact refOf_any f0 w'
  clear hK K
  refine wpNew_skip rfl ?_
  refine wpNew_nil ?_
  intro bs w2 hb2 hrows hap
  have r5 := hrows 5 _ 26 (by omega) rfl rfl
  clear hrows hap
  simp only [putNews, newPtr, Act.put, List.setIfInBounds_toArray, List.set_cons_succ, List.set_cons_zero, List.drop_succ_cons, List.drop_zero]
  generalize bs 5 = X5 at *
  have oX := of_ok f0
  have vX := E5.of_val f0
  generalize E5.of f0 = X at *
  rw [← vX]
  obtain ⟨a, ha⟩ : ∃ a, X.val % E5.p = a := ⟨_, rfl⟩
  rw [ha]
  refine wpList_store_row rfl 26 (.tmp 5) (.tmp 17) rfl X5 _ _ X.cells rfl rfl r5.2 (Eq.trans (b := 5) rfl rfl) (by kernel_rfl) (by kernel_rfl) ?_
  intro w3 s3
  have rX := s3.row
  have l5 : w1.heap.size ≤ X5 := r5.1
  have hb2' : Below w1.heap.size w1 w2 := ((Below.refl _ _).drew).trans hb2
  have hbel : Below w.heap.size w w3 := HB.out.trans ((hb2'.trans (s3.below _ l5)).mono (Nat.le_of_lt HS.out))
  have lX : w.heap.size < X5 := Nat.lt_of_lt_of_le HS.out l5
  clear s3 hb2 hb2' r5 l5 H0 C0 vX w2
  go_wp2_with fail
  have HD := Lib.hid h
  clear h
  have oX0 := Lib.hid oX
  clear oX
  go_loopw [6, 7] (fun s6 s7 wr => ∃ (i : Nat) (X : E5) (a : Nat), i ≤ n ∧ i ≤ 30 ∧ s7 = .int .i64 (i : Int) ∧ s6 = .string (numS a) ∧ Hid (E5.Ok X) ∧ Hid (X.val % E5.p = a) ∧ wr.heap[X5]? = some (.cells X.cells 26 (0, 0)) ∧ Below w.heap.size w wr) (fun _ s7 _ => n - (intOf s7).toNat)
  case atStart => exact ⟨0, X, a, by omega, by omega, rfl, rfl, oX0, Lib.hid ha, rX, hbel⟩
  case round =>
    clear rX hbel ha oX0
    obtain ⟨i, X, a, hi, hi30, rfl, rfl, OX, HA, rX, bel⟩ := hrel
    by_cases hgo : i < n ∧ i < 30
    · obtain ⟨hlt, h30⟩ := hgo
      have hltI : (i : Int) < (n : Int) := by omega
      have h30I : (i : Int) < 30 := by omega
      obtain h0 | ⟨b, off, rfl, hbl, hcell⟩ := HD.out
      · omega
      have KF := Lib.hid (fun w' (hb : Below w.heap.size w w') => (hb.cell (p := ⟨b, off + i * 33, none⟩) hbl).trans (hcell i hlt).1)
      have KB := Lib.hid (fun w' (hb : Below w.heap.size w w') k (hk : k < 32) => (hb.cell (p := ⟨b, off + i * 33 + 1 + k, none⟩) hbl).trans ((hcell i hlt).2 k hk))
      clear hcell
      generalize F i = G at *
      have BEL := Lib.hid bel
      have RX := Lib.hid rX
      clear bel rX
      have hsz := BEL.out.size
      go_wp2_with fail
      refine region_news 14 (fun _ => zeros5) [(13, 8)] mixedOrders (by kernel_rfl) (by kernel_rfl) (zero_one (T := 26) (by kernel_rfl) (by kernel_rfl)) ?_
      refine wpNew_step rfl (fun K hK => ⟨.slice (some ⟨b, off, none⟩) n c, fun w' hw' => by go_simp, hK _ ?_⟩)
      clear hK K
      simp only [Act.put, List.setIfInBounds_toArray, List.set_cons_succ, List.set_cons_zero]
      refine wpNew_step rfl (fun K hK => ⟨.int .i64 (i : Int), fun w' hw' => by go_simp, hK _ ?_⟩)
      clear hK K
      simp only [Act.put, List.setIfInBounds_toArray, List.set_cons_succ, List.set_cons_zero]
      refine wpNew_step rfl (fun K hK => ⟨.pointer (some ⟨b, off + i * 33, none⟩), fun w' hw' => by go_simp, hK _ ?_⟩)
      clear hK K
      simp only [Act.put, List.setIfInBounds_toArray, List.set_cons_succ, List.set_cons_zero]
      refine wpNew_step rfl (fun K hK => ⟨.pointer (some ⟨b, off + i * 33 + 1, none⟩), fun w' hw' => by go_simp, hK _ ?_⟩)
      clear hK K
      simp only [Act.put, List.setIfInBounds_toArray, List.set_cons_succ, List.set_cons_zero]
      refine wpNew_step rfl (fun K hK => ⟨.agg (b32 G), fun w' hw' => quiet_run (quiet_of_run (load32_mid G b (off + i * 33 + 1) w' (KB.out w' (BEL.out.trans ((((Below.refl _ _).drew).trans hw').mono hsz))))), hK _ ?_⟩)
      clear hK K
      simp only [Act.put, List.setIfInBounds_toArray, List.set_cons_succ, List.set_cons_zero]
      refine wpNew_step rfl (fun K hK => ⟨(E5.of G).v, fun w' hw' => ?_, hK _ ?_⟩)
      · go_simp
        go_at_call 8
        exact ofE_any G w'
      clear hK K
      simp only [Act.put, List.setIfInBounds_toArray, List.set_cons_succ, List.set_cons_zero]
      refine wpNew_step rfl (fun K hK => ⟨.slice (some ⟨b, off, none⟩) n c, fun w' hw' => by go_simp, hK _ ?_⟩)
      clear hK K
      simp only [Act.put, List.setIfInBounds_toArray, List.set_cons_succ, List.set_cons_zero]
      refine wpNew_step rfl (fun K hK => ⟨.int .i64 (i : Int), fun w' hw' => by go_simp, hK _ ?_⟩)
      clear hK K
      simp only [Act.put, List.setIfInBounds_toArray, List.set_cons_succ, List.set_cons_zero]
      refine wpNew_step rfl (fun K hK => ⟨.pointer (some ⟨b, off + i * 33, none⟩), fun w' hw' => by go_simp, hK _ ?_⟩)
      clear hK K
      simp only [Act.put, List.setIfInBounds_toArray, List.set_cons_succ, List.set_cons_zero]
      refine wpNew_step rfl (fun K hK => ⟨.pointer (some ⟨b, off + i * 33 + 1, none⟩), fun w' hw' => by go_simp, hK _ ?_⟩)
      clear hK K
      simp only [Act.put, List.setIfInBounds_toArray, List.set_cons_succ, List.set_cons_zero]
      refine wpNew_step rfl (fun K hK => ⟨.slice (some ⟨b, off + i * 33 + 1, none⟩) 32 32, fun w' hw' => quiet_run (quiet_of_run (arr32_mid b (off + i * 33 + 1) w')), hK _ ?_⟩)
      clear hK K
      simp only [Act.put, List.setIfInBounds_toArray, List.set_cons_succ, List.set_cons_zero]
      refine wpNew_step rfl (fun K hK => ⟨.string (strOf G 32), fun w' hw' => quiet_run (quiet_of_run (conv_str G b (off + i * 33 + 1) 32 32 w' (KB.out w' (BEL.out.trans ((((Below.refl _ _).drew).trans hw').mono hsz))))), hK _ ?_⟩)
      clear hK K
      simp only [Act.put, List.setIfInBounds_toArray, List.set_cons_succ, List.set_cons_zero]
      refine wpNew_step rfl (fun K hK => ⟨.string (numS (E5.num G 32 % 2 ^ 255 % E5.p)), fun w' hw' => ?_, hK _ ?_⟩)
      · go_simp
        go_at_call 9
        exact refOf_any G w'
      clear hK K
      simp only [Act.put, List.setIfInBounds_toArray, List.set_cons_succ, List.set_cons_zero]
      refine wpNew_skip rfl ?_
      refine wpNew_nil ?_
      intro bs w2 hb2 hrows hap
      have r8 := hrows 13 _ 26 (by omega) rfl rfl
      clear hrows hap
      simp only [putNews, newPtr, Act.put, List.setIfInBounds_toArray, List.set_cons_succ, List.set_cons_zero, List.drop_succ_cons, List.drop_zero]
      generalize bs 13 = Y8 at *
      have oY := of_ok G
      have vY := E5.of_val G
      generalize E5.of G = Y at *
      rw [← vY]
      obtain ⟨d, hd⟩ : ∃ d, Y.val % E5.p = d := ⟨_, rfl⟩
      rw [hd]
      refine wpList_store_row rfl 26 (.tmp 8) (.tmp 36) rfl Y8 _ _ Y.cells rfl rfl r8.2 (Eq.trans (b := 5) rfl rfl) (by kernel_rfl) (by kernel_rfl) ?_
      intro w4 s4
      have rY := s4.row
      have l8 : wr.heap.size ≤ Y8 := r8.1
      have hb2' : Below wr.heap.size wr w2 := ((Below.refl _ _).drew).trans hb2
      have hb4 : Below wr.heap.size wr w4 := hb2'.trans (s4.below _ l8)
      have rX := below_row hb4 (lt_row RX.out) RX.out
      have bel4 := BEL.out.trans (hb4.mono hsz)
      have hXY : X5 ≠ Y8 := by have := lt_row RX.out; omega
      have kf := KF.out w4 bel4
      have OY := Lib.hid oY
      have HDD := Lib.hid hd
      have B4 := Lib.hid bel4
      clear s4 hb2 hb2' r8 l8 hb4 w2 KF KB RX BEL vY oY hd bel4 hsz
      by_cases hd0 : f i ≠ 0 ∧ f i ≠ 1 ∧ f i ≠ 2 ∧ f i ≠ 3 ∧ f i ≠ 4
      · obtain ⟨n0, n1, n2, n3, n4⟩ := hd0
        generalize f i = T at *
        have m0 : (T == 0) = false := by simp [n0]
        have m1 : (T == 1) = false := by simp [n1]
        have m2 : (T == 2) = false := by simp [n2]
        have m3 : (T == 3) = false := by simp [n3]
        have m4 : (T == 4) = false := by simp [n4]
        have OZ := OX
        have HZ := HA
        have hcur := Below.refl w4.heap.size w4
        go_wp2_with fail
        go_roundw
        case rel => exact ⟨i + 1, X, a, by omega, by omega, by go_num, rfl, OZ, HZ, rX, B4.out⟩
        case measure => (simp [intOf] <;> omega)
      · obtain hf0 | hf0 | hf0 | hf0 | hf0 : f i = 0 ∨ f i = 1 ∨ f i = 2 ∨ f i = 3 ∨ f i = 4 := by omega
        · rw [hf0] at kf
          obtain ⟨Z, hZ⟩ : ∃ Z, X.add Y = Z := ⟨_, rfl⟩
          obtain ⟨z, hz⟩ : ∃ z, (a + d) % E5.p = z := ⟨_, rfl⟩
          have la : a < E5.p := by rw [← HA.out]; exact Nat.mod_lt _ p_pos
          have ld : d < E5.p := by rw [← HDD.out]; exact Nat.mod_lt _ p_pos
          have lp := p_lt
          have M0 := addE_any X Y
          have M1 := refAdd_any a d (by omega) (by omega)
          have OZ := Lib.hid (E5.add_ok OX.out OY.out).1
          have HZ : Hid (Z.val % E5.p = z) := Lib.hid (by rw [← hZ, ← hz]; rw [(E5.add_ok OX.out OY.out).2, Nat.add_mod, HA.out, HDD.out])
          rw [hZ] at M0 OZ
          rw [hz] at M1
          have M0 := Lib.hid M0
          have M1 := Lib.hid M1
          clear hZ hz la ld lp
          have hcur := Below.refl w4.heap.size w4
          go_upto_region 10 with (fail)
          go_wp2_with (first
            | (refine wpList_load_row (o := ⟨some 51, .load 26 _, _, _, _, _⟩) rfl 26 _ rfl X5 rfl _ X.cells (0, 0) _ (below_row hcur (lt_row rX) rX) Try.underlying26 rfl (by kernel_rfl) ?_)
            | (refine wpList_load_row (o := ⟨some 52, .load 26 _, _, _, _, _⟩) rfl 26 _ rfl Y8 rfl _ Y.cells (0, 0) _ (below_row hcur (lt_row rY) rY) Try.underlying26 rfl (by kernel_rfl) ?_)
            | (go_at_call 12; refine (M0.out _).mono ?_; rintro e w' ⟨rfl, hq⟩; have hcur := hcur.trans (hq.mono hcur.size); clear hq)
            | (go_at_call 13; refine (M1.out _).mono ?_; rintro e w' ⟨rfl, hq⟩; have hcur := hcur.trans (hq.mono hcur.size); clear hq)
            | (refine wpList_store_row (op := ⟨none, .store 26 (.tmp 5) (.tmp 53), _, _, _, _⟩) rfl 26 _ _ rfl X5 _ _ Z.cells rfl rfl (below_row hcur (lt_row rX) rX) (Eq.trans (b := 5) rfl rfl) (by kernel_rfl) (by kernel_rfl) ?_; intro w5 s5))
          go_roundw
          case rel => exact ⟨i + 1, Z, z, by omega, by omega, by go_num, rfl, OZ, HZ, s5.row, (B4.out.trans (hcur.mono B4.out.size)).trans (s5.below _ (by omega))⟩
          case measure => (simp [intOf] <;> omega)
        · rw [hf0] at kf
          obtain ⟨Z, hZ⟩ : ∃ Z, X.sub Y = Z := ⟨_, rfl⟩
          obtain ⟨z, hz⟩ : ∃ z, (a + E5.p - d) % E5.p = z := ⟨_, rfl⟩
          have la : a < E5.p := by rw [← HA.out]; exact Nat.mod_lt _ p_pos
          have ld : d < E5.p := by rw [← HDD.out]; exact Nat.mod_lt _ p_pos
          have lp := p_lt
          have M0 := subE_any X Y
          have M1 := (fun a d (h1 : a < 2 ^ 256) (h2 : d ≤ E5.p) => refSub_any a d h1 h2) a d (by omega) (by omega)
          have OZ := Lib.hid (E5.sub_ok OX.out OY.out).1
          have HZ : Hid (Z.val % E5.p = z) := Lib.hid (by rw [← hZ, ← hz]; exact sub_num OX.out OY.out HA.out HDD.out)
          rw [hZ] at M0 OZ
          rw [hz] at M1
          have M0 := Lib.hid M0
          have M1 := Lib.hid M1
          clear hZ hz la ld lp
          have hcur := Below.refl w4.heap.size w4
          go_upto_region 12 with (fail)
          go_wp2_with (first
            | (refine wpList_load_row (o := ⟨some 59, .load 26 _, _, _, _, _⟩) rfl 26 _ rfl X5 rfl _ X.cells (0, 0) _ (below_row hcur (lt_row rX) rX) Try.underlying26 rfl (by kernel_rfl) ?_)
            | (refine wpList_load_row (o := ⟨some 60, .load 26 _, _, _, _, _⟩) rfl 26 _ rfl Y8 rfl _ Y.cells (0, 0) _ (below_row hcur (lt_row rY) rY) Try.underlying26 rfl (by kernel_rfl) ?_)
            | (go_at_call 14; refine (M0.out _).mono ?_; rintro e w' ⟨rfl, hq⟩; have hcur := hcur.trans (hq.mono hcur.size); clear hq)
            | (go_at_call 15; refine (M1.out _).mono ?_; rintro e w' ⟨rfl, hq⟩; have hcur := hcur.trans (hq.mono hcur.size); clear hq)
            | (refine wpList_store_row (op := ⟨none, .store 26 (.tmp 5) (.tmp 61), _, _, _, _⟩) rfl 26 _ _ rfl X5 _ _ Z.cells rfl rfl (below_row hcur (lt_row rX) rX) (Eq.trans (b := 5) rfl rfl) (by kernel_rfl) (by kernel_rfl) ?_; intro w5 s5))
          go_roundw
          case rel => exact ⟨i + 1, Z, z, by omega, by omega, by go_num, rfl, OZ, HZ, s5.row, (B4.out.trans (hcur.mono B4.out.size)).trans (s5.below _ (by omega))⟩
          case measure => (simp [intOf] <;> omega)
        · rw [hf0] at kf
          obtain ⟨Z, hZ⟩ : ∃ Z, X.mul Y = Z := ⟨_, rfl⟩
          obtain ⟨z, hz⟩ : ∃ z, a * d % E5.p = z := ⟨_, rfl⟩
          have la : a < E5.p := by rw [← HA.out]; exact Nat.mod_lt _ p_pos
          have ld : d < E5.p := by rw [← HDD.out]; exact Nat.mod_lt _ p_pos
          have lp := p_lt
          have M0 := mulE_any X Y
          have M1 := refMul_any a d (by omega) (by omega)
          have OZ := Lib.hid (E5.mul_ok OX.out OY.out).1
          have HZ : Hid (Z.val % E5.p = z) := Lib.hid (by rw [← hZ, ← hz]; rw [(E5.mul_ok OX.out OY.out).2, Nat.mul_mod, HA.out, HDD.out])
          rw [hZ] at M0 OZ
          rw [hz] at M1
          have M0 := Lib.hid M0
          have M1 := Lib.hid M1
          clear hZ hz la ld lp
          have hcur := Below.refl w4.heap.size w4
          go_upto_region 14 with (fail)
          go_wp2_with (first
            | (refine wpList_load_row (o := ⟨some 67, .load 26 _, _, _, _, _⟩) rfl 26 _ rfl X5 rfl _ X.cells (0, 0) _ (below_row hcur (lt_row rX) rX) Try.underlying26 rfl (by kernel_rfl) ?_)
            | (refine wpList_load_row (o := ⟨some 68, .load 26 _, _, _, _, _⟩) rfl 26 _ rfl Y8 rfl _ Y.cells (0, 0) _ (below_row hcur (lt_row rY) rY) Try.underlying26 rfl (by kernel_rfl) ?_)
            | (go_at_call 16; refine (M0.out _).mono ?_; rintro e w' ⟨rfl, hq⟩; have hcur := hcur.trans (hq.mono hcur.size); clear hq)
            | (go_at_call 17; refine (M1.out _).mono ?_; rintro e w' ⟨rfl, hq⟩; have hcur := hcur.trans (hq.mono hcur.size); clear hq)
            | (refine wpList_store_row (op := ⟨none, .store 26 (.tmp 5) (.tmp 69), _, _, _, _⟩) rfl 26 _ _ rfl X5 _ _ Z.cells rfl rfl (below_row hcur (lt_row rX) rX) (Eq.trans (b := 5) rfl rfl) (by kernel_rfl) (by kernel_rfl) ?_; intro w5 s5))
          go_roundw
          case rel => exact ⟨i + 1, Z, z, by omega, by omega, by go_num, rfl, OZ, HZ, s5.row, (B4.out.trans (hcur.mono B4.out.size)).trans (s5.below _ (by omega))⟩
          case measure => (simp [intOf] <;> omega)
        · rw [hf0] at kf
          by_cases h8 : i < 8
          · have h8I : (i : Int) < 8 := by omega
            obtain ⟨Z, hZ⟩ : ∃ Z, X.inv = Z := ⟨_, rfl⟩
            obtain ⟨z, hz⟩ : ∃ z, a ^ (E5.p - 2) % E5.p = z := ⟨_, rfl⟩
            have la : a < E5.p := by rw [← HA.out]; exact Nat.mod_lt _ p_pos
            have lp := p_lt
            have M0 := invE_any X
            have M1 := refInv_any a (by omega)
            have OZ := Lib.hid (E5.inv_ok OX.out).1
            have HZ : Hid (Z.val % E5.p = z) := Lib.hid (by rw [← hZ, ← hz]; exact inv_num OX.out a HA.out)
            rw [hZ] at M0 OZ
            rw [hz] at M1
            have M0 := Lib.hid M0
            have M1 := Lib.hid M1
            clear hZ hz la lp
            have hcur := Below.refl w4.heap.size w4
            go_upto_region 17 with (fail)
            go_wp2_with (first
              | (refine wpList_load_row (o := ⟨some 77, .load 26 _, _, _, _, _⟩) rfl 26 _ rfl X5 rfl _ X.cells (0, 0) _ (below_row hcur (lt_row rX) rX) Try.underlying26 rfl (by kernel_rfl) ?_)
              | (go_at_call 18; refine (M0.out _).mono ?_; rintro e w' ⟨rfl, hq⟩; have hcur := hcur.trans (hq.mono hcur.size); clear hq)
              | (go_at_call 19; refine (M1.out _).mono ?_; rintro e w' ⟨rfl, hq⟩; have hcur := hcur.trans (hq.mono hcur.size); clear hq)
              | (refine wpList_store_row (op := ⟨none, .store 26 (.tmp 5) (.tmp 78), _, _, _, _⟩) rfl 26 _ _ rfl X5 _ _ Z.cells rfl rfl (below_row hcur (lt_row rX) rX) (Eq.trans (b := 5) rfl rfl) (by kernel_rfl) (by kernel_rfl) ?_; intro w5 s5))
            go_roundw
            case rel => exact ⟨i + 1, Z, z, by omega, by omega, by go_num, rfl, OZ, HZ, s5.row, (B4.out.trans (hcur.mono B4.out.size)).trans (s5.below _ (by omega))⟩
            case measure => (simp [intOf] <;> omega)
          · have h8I : ¬ (i : Int) < 8 := by omega
            have OZ := OX
            have HZ := HA
            have hcur := Below.refl w4.heap.size w4
            go_wp2_with fail
            go_roundw
            case rel => exact ⟨i + 1, X, a, by omega, by omega, by go_num, rfl, OZ, HZ, rX, B4.out⟩
            case measure => (simp [intOf] <;> omega)
        · rw [hf0] at kf
          have hz : (Try.prog.info? 26).map (·.zero) = some (some (.agg zeros5)) := by kernel_rfl
          have lX := lt_row rX
          have lY := lt_row rY
          have lw := B4.out.size
          go_upto_region 19 with (fail)
          go_wp2_with (first
            | (refine wpList_load_row (o := ⟨some 84, .load 26 _, _, _, _, _⟩) rfl 26 _ rfl (X5) rfl _ X.cells (0, 0) _ rX Try.underlying26 rfl (by kernel_rfl) ?_)
            | (refine wpList_load_row (o := ⟨some 85, .load 26 _, _, _, _, _⟩) rfl 26 _ rfl (Y8) rfl _ Y.cells (0, 0) _ rY Try.underlying26 rfl (by kernel_rfl) ?_))
          refine (swapE_true X Y _).mono ?_
          rintro e w5 ⟨rfl, hq⟩
          have rX5 := below_row hq lX rX
          have rY5 := below_row hq lY rY
          have B5 := B4.out.trans (hq.mono lw)
          have l5 := hq.size
          clear hq rX rY
          have bn : Below w5.heap.size w5 ((w5.alloc (.cells zeros5 26)).alloc (.cells zeros5 26)) := ((Below.refl _ _).alloc (Nat.le_refl _) _).alloc (by simp) _
          have o5 : ((w5.alloc (.cells zeros5 26)).alloc (.cells zeros5 26)).heap[w5.heap.size]? = some (.cells zeros5 26 (0, 0)) := heap_alloc2_old _ _ _
          have n5 : ((w5.alloc (.cells zeros5 26)).alloc (.cells zeros5 26)).heap[w5.heap.size + 1]? = some (.cells zeros5 26 (0, 0)) := heap_alloc2_new _ _ _
          dsimp only
          iterate 10 go_step
          refine wpList_alloc_row rfl 26 rfl _ hz ?_
          simp only [Act.put, List.setIfInBounds_toArray, List.set_cons_succ, List.set_cons_zero]
          refine wpList_alloc_row rfl 26 rfl _ hz ?_
          simp only [Act.put, List.setIfInBounds_toArray, List.set_cons_succ, List.set_cons_zero]
          rw [show (w5.alloc (.cells zeros5 26)).heap.size = w5.heap.size + 1 from by simp]
          refine wpList_store_row rfl 26 (.tmp 10) (.tmp 87) rfl w5.heap.size _ _ Y.cells rfl rfl o5 (Eq.trans (b := 5) rfl rfl) (by kernel_rfl) (by kernel_rfl) ?_
          intro w6 s6
          simp only [Act.put, List.setIfInBounds_toArray, List.set_cons_succ, List.set_cons_zero]
          refine wpList_store_row rfl 26 (.tmp 11) (.tmp 88) rfl (w5.heap.size + 1) _ _ X.cells rfl rfl (s6.keep (by omega) n5) (Eq.trans (b := 5) rfl rfl) (by kernel_rfl) (by kernel_rfl) ?_
          intro w7 s7
          simp only [Act.put, List.setIfInBounds_toArray, List.set_cons_succ, List.set_cons_zero]
          have b57 := (bn.trans (s6.below _ (by omega))).trans (s7.below _ (by omega))
          have rX7 := below_row b57 (by omega) rX5
          have rY7 := below_row b57 (by omega) rY5
          have r10 := s7.keep (by omega) s6.row
          have r11 := s7.row
          have l7 : w5.heap.size + 1 < w7.heap.size := lt_row r11
          have B7 := B5.trans (b57.mono (by omega))
          obtain ⟨P, hP⟩ : ∃ P, w5.heap.size = P := ⟨_, rfl⟩
          rw [hP] at r10 r11 l7 l5
          simp only [hP]
          clear s6 s7 b57 bn o5 n5 rX5 rY5 B5 hP w5 w6
          go_upto_region 20 with (fail)
          go_wp2_with (first
            | (refine wpList_load_row (o := ⟨some 90, .load 26 _, _, _, _, _⟩) rfl 26 _ rfl (X5) rfl _ X.cells (0, 0) _ rX7 Try.underlying26 rfl (by kernel_rfl) ?_)
            | (refine wpList_load_row (o := ⟨some 91, .load 26 _, _, _, _, _⟩) rfl 26 _ rfl (Y8) rfl _ Y.cells (0, 0) _ rY7 Try.underlying26 rfl (by kernel_rfl) ?_))
          refine (swapE_false X Y _).mono ?_
          rintro e w8 ⟨rfl, hq⟩
          have rX8 := below_row hq (by omega) rX7
          have rY8 := below_row hq (by omega) rY7
          have r10 := below_row hq (by omega) r10
          have r11 := below_row hq (by omega) r11
          have B8 := B7.trans (hq.mono (by omega))
          have l8 := hq.size
          clear hq rX7 rY7 B7
          have bn : Below w8.heap.size w8 ((w8.alloc (.cells zeros5 26)).alloc (.cells zeros5 26)) := ((Below.refl _ _).alloc (Nat.le_refl _) _).alloc (by simp) _
          have o8 : ((w8.alloc (.cells zeros5 26)).alloc (.cells zeros5 26)).heap[w8.heap.size]? = some (.cells zeros5 26 (0, 0)) := heap_alloc2_old _ _ _
          have n8' : ((w8.alloc (.cells zeros5 26)).alloc (.cells zeros5 26)).heap[w8.heap.size + 1]? = some (.cells zeros5 26 (0, 0)) := heap_alloc2_new _ _ _
          dsimp only
          iterate 10 go_step
          refine wpList_alloc_row rfl 26 rfl _ hz ?_
          simp only [Act.put, List.setIfInBounds_toArray, List.set_cons_succ, List.set_cons_zero]
          refine wpList_alloc_row rfl 26 rfl _ hz ?_
          simp only [Act.put, List.setIfInBounds_toArray, List.set_cons_succ, List.set_cons_zero]
          rw [show (w8.alloc (.cells zeros5 26)).heap.size = w8.heap.size + 1 from by simp]
          refine wpList_store_row rfl 26 (.tmp 12) (.tmp 93) rfl w8.heap.size _ _ X.cells rfl rfl o8 (Eq.trans (b := 5) rfl rfl) (by kernel_rfl) (by kernel_rfl) ?_
          intro w9 s9
          simp only [Act.put, List.setIfInBounds_toArray, List.set_cons_succ, List.set_cons_zero]
          refine wpList_store_row rfl 26 (.tmp 13) (.tmp 94) rfl (w8.heap.size + 1) _ _ Y.cells rfl rfl (s9.keep (by omega) n8') (Eq.trans (b := 5) rfl rfl) (by kernel_rfl) (by kernel_rfl) ?_
          intro wa sa
          simp only [Act.put, List.setIfInBounds_toArray, List.set_cons_succ, List.set_cons_zero]
          have b8a := (bn.trans (s9.below _ (by omega))).trans (sa.below _ (by omega))
          have RX := Lib.hid (below_row b8a (by omega) rX8)
          have RY := Lib.hid (below_row b8a (by omega) rY8)
          have R10 := Lib.hid (below_row b8a (by omega) r10)
          have R11 := Lib.hid (below_row b8a (by omega) r11)
          have R12 := Lib.hid (sa.keep (by omega) s9.row)
          have R13 := Lib.hid sa.row
          have BA := Lib.hid (B8.trans (b8a.mono (by omega)))
          obtain ⟨Q, hQ⟩ : ∃ Q, w8.heap.size = Q := ⟨_, rfl⟩
          rw [hQ] at R12 R13
          simp only [hQ]
          clear b8a s9 sa bn o8 n8' rX8 rY8 r10 r11 B8 hQ l8 w9 w8
          have T0 : Hid (∀ w' : World, Calls Try.prog 11 #[.agg X.cells] w' fun e w'' => e = .returned (.string (numS a)) ∧ Below w'.heap.size w' w'') := Lib.hid (fun w' => text_as OX.out _ HA.out w')
          have T1 : Hid (∀ w' : World, Calls Try.prog 11 #[.agg Y.cells] w' fun e w'' => e = .returned (.string (numS d)) ∧ Below w'.heap.size w' w'') := Lib.hid (fun w' => text_as OY.out _ HDD.out w')
          obtain ⟨SA, hSA⟩ : ∃ S, numS a = S := ⟨_, rfl⟩
          obtain ⟨SD, hSD⟩ : ∃ S, numS d = S := ⟨_, rfl⟩
          rw [hSA] at T0
          rw [hSD] at T1
          go_upto_region 21 with (fail)
          refine region_class1 25 (fun w' => Below wa.heap.size wa w') mixedOrders (by kernel_rfl) (Below.refl _ _).drew rfl ?_
          refine wpQuiet_take (by rfl) (fun K hK => ⟨.agg Y.cells, fun w' hw' => quiet_load_row 26 (.tmp 10) rfl (P) rfl _ Y.cells (0, 0) _ (below_row hw' (lt_row R10.out) R10.out) Try.underlying26 rfl (by kernel_rfl), hK _ ?_⟩)
          clear hK K
          simp only [Act.put, List.setIfInBounds_toArray, List.set_cons_succ, List.set_cons_zero]
          refine wpQuiet_take (by rfl) (fun K hK => ⟨.string SD, fun w' hw' => ?_, hK _ ?_⟩)
          · have hw2 := Lib.hid hw'
            clear hw'
            go_simp
            go_at_call 11
            with_reducible refine (T1.out w').mono ?_
            rintro e w1 ⟨rfl, hb⟩
            exact ⟨rfl, hw2.out.trans (hb.mono hw2.out.size)⟩
          clear hK K
          simp only [Act.put, List.setIfInBounds_toArray, List.set_cons_succ, List.set_cons_zero]
          refine wpQuiet_take (by rfl) (fun K hK => ⟨.agg Y.cells, fun w' hw' => quiet_load_row 26 (.tmp 8) rfl (Y8) rfl _ Y.cells (0, 0) _ (below_row hw' (lt_row RY.out) RY.out) Try.underlying26 rfl (by kernel_rfl), hK _ ?_⟩)
          clear hK K
          simp only [Act.put, List.setIfInBounds_toArray, List.set_cons_succ, List.set_cons_zero]
          refine wpQuiet_take (by rfl) (fun K hK => ⟨.string SD, fun w' hw' => ?_, hK _ ?_⟩)
          · have hw2 := Lib.hid hw'
            clear hw'
            go_simp
            go_at_call 11
            with_reducible refine (T1.out w').mono ?_
            rintro e w1 ⟨rfl, hb⟩
            exact ⟨rfl, hw2.out.trans (hb.mono hw2.out.size)⟩
          clear hK K
          simp only [Act.put, List.setIfInBounds_toArray, List.set_cons_succ, List.set_cons_zero]
          refine wpQuiet_take (by rfl) (fun K hK => ⟨.bool false, fun w' hw' => by clear hw'; go_simp, hK _ ?_⟩)
          clear hK K
          simp only [Act.put, List.setIfInBounds_toArray, List.set_cons_succ, List.set_cons_zero]
          refine wpQuiet_take (by rfl) (fun K hK => ⟨.bool false, fun w' hw' => by clear hw'; go_simp, hK _ ?_⟩)
          clear hK K
          simp only [Act.put, List.setIfInBounds_toArray, List.set_cons_succ, List.set_cons_zero]
          refine wpQuiet_take (by rfl) (fun K hK => ⟨.agg X.cells, fun w' hw' => quiet_load_row 26 (.tmp 11) rfl (P + 1) rfl _ X.cells (0, 0) _ (below_row hw' (lt_row R11.out) R11.out) Try.underlying26 rfl (by kernel_rfl), hK _ ?_⟩)
          clear hK K
          simp only [Act.put, List.setIfInBounds_toArray, List.set_cons_succ, List.set_cons_zero]
          refine wpQuiet_take (by rfl) (fun K hK => ⟨.string SA, fun w' hw' => ?_, hK _ ?_⟩)
          · have hw2 := Lib.hid hw'
            clear hw'
            go_simp
            go_at_call 11
            with_reducible refine (T0.out w').mono ?_
            rintro e w1 ⟨rfl, hb⟩
            exact ⟨rfl, hw2.out.trans (hb.mono hw2.out.size)⟩
          clear hK K
          simp only [Act.put, List.setIfInBounds_toArray, List.set_cons_succ, List.set_cons_zero]
          refine wpQuiet_take (by rfl) (fun K hK => ⟨.agg X.cells, fun w' hw' => quiet_load_row 26 (.tmp 5) rfl (X5) rfl _ X.cells (0, 0) _ (below_row hw' (lt_row RX.out) RX.out) Try.underlying26 rfl (by kernel_rfl), hK _ ?_⟩)
          clear hK K
          simp only [Act.put, List.setIfInBounds_toArray, List.set_cons_succ, List.set_cons_zero]
          refine wpQuiet_take (by rfl) (fun K hK => ⟨.string SA, fun w' hw' => ?_, hK _ ?_⟩)
          · have hw2 := Lib.hid hw'
            clear hw'
            go_simp
            go_at_call 11
            with_reducible refine (T0.out w').mono ?_
            rintro e w1 ⟨rfl, hb⟩
            exact ⟨rfl, hw2.out.trans (hb.mono hw2.out.size)⟩
          clear hK K
          simp only [Act.put, List.setIfInBounds_toArray, List.set_cons_succ, List.set_cons_zero]
          refine wpQuiet_take (by rfl) (fun K hK => ⟨.bool false, fun w' hw' => by clear hw'; go_simp, hK _ ?_⟩)
          clear hK K
          simp only [Act.put, List.setIfInBounds_toArray, List.set_cons_succ, List.set_cons_zero]
          refine wpQuiet_take (by rfl) (fun K hK => ⟨.bool false, fun w' hw' => by clear hw'; go_simp, hK _ ?_⟩)
          clear hK K
          simp only [Act.put, List.setIfInBounds_toArray, List.set_cons_succ, List.set_cons_zero]
          refine wpQuiet_take (by rfl) (fun K hK => ⟨.bool false, fun w' hw' => by clear hw'; go_simp, hK _ ?_⟩)
          clear hK K
          simp only [Act.put, List.setIfInBounds_toArray, List.set_cons_succ, List.set_cons_zero]
          refine wpQuiet_take (by rfl) (fun K hK => ⟨.agg X.cells, fun w' hw' => quiet_load_row 26 (.tmp 12) rfl (Q) rfl _ X.cells (0, 0) _ (below_row hw' (lt_row R12.out) R12.out) Try.underlying26 rfl (by kernel_rfl), hK _ ?_⟩)
          clear hK K
          simp only [Act.put, List.setIfInBounds_toArray, List.set_cons_succ, List.set_cons_zero]
          refine wpQuiet_take (by rfl) (fun K hK => ⟨.string SA, fun w' hw' => ?_, hK _ ?_⟩)
          · have hw2 := Lib.hid hw'
            clear hw'
            go_simp
            go_at_call 11
            with_reducible refine (T0.out w').mono ?_
            rintro e w1 ⟨rfl, hb⟩
            exact ⟨rfl, hw2.out.trans (hb.mono hw2.out.size)⟩
          clear hK K
          simp only [Act.put, List.setIfInBounds_toArray, List.set_cons_succ, List.set_cons_zero]
          refine wpQuiet_take (by rfl) (fun K hK => ⟨.agg X.cells, fun w' hw' => quiet_load_row 26 (.tmp 5) rfl (X5) rfl _ X.cells (0, 0) _ (below_row hw' (lt_row RX.out) RX.out) Try.underlying26 rfl (by kernel_rfl), hK _ ?_⟩)
          clear hK K
          simp only [Act.put, List.setIfInBounds_toArray, List.set_cons_succ, List.set_cons_zero]
          refine wpQuiet_take (by rfl) (fun K hK => ⟨.string SA, fun w' hw' => ?_, hK _ ?_⟩)
          · have hw2 := Lib.hid hw'
            clear hw'
            go_simp
            go_at_call 11
            with_reducible refine (T0.out w').mono ?_
            rintro e w1 ⟨rfl, hb⟩
            exact ⟨rfl, hw2.out.trans (hb.mono hw2.out.size)⟩
          clear hK K
          simp only [Act.put, List.setIfInBounds_toArray, List.set_cons_succ, List.set_cons_zero]
          refine wpQuiet_take (by rfl) (fun K hK => ⟨.bool false, fun w' hw' => by clear hw'; go_simp, hK _ ?_⟩)
          clear hK K
          simp only [Act.put, List.setIfInBounds_toArray, List.set_cons_succ, List.set_cons_zero]
          refine wpQuiet_take (by rfl) (fun K hK => ⟨.bool false, fun w' hw' => by clear hw'; go_simp, hK _ ?_⟩)
          clear hK K
          simp only [Act.put, List.setIfInBounds_toArray, List.set_cons_succ, List.set_cons_zero]
          refine wpQuiet_take (by rfl) (fun K hK => ⟨.bool false, fun w' hw' => by clear hw'; go_simp, hK _ ?_⟩)
          clear hK K
          simp only [Act.put, List.setIfInBounds_toArray, List.set_cons_succ, List.set_cons_zero]
          refine wpQuiet_take (by rfl) (fun K hK => ⟨.agg Y.cells, fun w' hw' => quiet_load_row 26 (.tmp 13) rfl (Q + 1) rfl _ Y.cells (0, 0) _ (below_row hw' (lt_row R13.out) R13.out) Try.underlying26 rfl (by kernel_rfl), hK _ ?_⟩)
          clear hK K
          simp only [Act.put, List.setIfInBounds_toArray, List.set_cons_succ, List.set_cons_zero]
          refine wpQuiet_take (by rfl) (fun K hK => ⟨.string SD, fun w' hw' => ?_, hK _ ?_⟩)
          · have hw2 := Lib.hid hw'
            clear hw'
            go_simp
            go_at_call 11
            with_reducible refine (T1.out w').mono ?_
            rintro e w1 ⟨rfl, hb⟩
            exact ⟨rfl, hw2.out.trans (hb.mono hw2.out.size)⟩
          clear hK K
          simp only [Act.put, List.setIfInBounds_toArray, List.set_cons_succ, List.set_cons_zero]
          refine wpQuiet_take (by rfl) (fun K hK => ⟨.agg Y.cells, fun w' hw' => quiet_load_row 26 (.tmp 8) rfl (Y8) rfl _ Y.cells (0, 0) _ (below_row hw' (lt_row RY.out) RY.out) Try.underlying26 rfl (by kernel_rfl), hK _ ?_⟩)
          clear hK K
          simp only [Act.put, List.setIfInBounds_toArray, List.set_cons_succ, List.set_cons_zero]
          refine wpQuiet_take (by rfl) (fun K hK => ⟨.string SD, fun w' hw' => ?_, hK _ ?_⟩)
          · have hw2 := Lib.hid hw'
            clear hw'
            go_simp
            go_at_call 11
            with_reducible refine (T1.out w').mono ?_
            rintro e w1 ⟨rfl, hb⟩
            exact ⟨rfl, hw2.out.trans (hb.mono hw2.out.size)⟩
          clear hK K
          simp only [Act.put, List.setIfInBounds_toArray, List.set_cons_succ, List.set_cons_zero]
          refine wpQuiet_take (by rfl) (fun K hK => ⟨.bool false, fun w' hw' => by clear hw'; go_simp, hK _ ?_⟩)
          clear hK K
          simp only [Act.put, List.setIfInBounds_toArray, List.set_cons_succ, List.set_cons_zero]
          refine wpQuiet_take0 ?_
          intro wz hzz
          have rX := below_row hzz (lt_row RX.out) RX.out
          have r10 := below_row hzz (lt_row R10.out) R10.out
          have B4 := Lib.hid (BA.out.trans (hzz.mono BA.out.size))
          have hcur := Below.refl wz.heap.size wz
          clear hzz RX RY R10 R11 R12 R13 BA
          obtain ⟨Z, hZ⟩ : ∃ Z, Y = Z := ⟨_, rfl⟩
          obtain ⟨z, hz'⟩ : ∃ z, d = z := ⟨_, rfl⟩
          have OZ : Hid (E5.Ok Z) := by rw [← hZ]; exact OY
          have HZ : Hid (Z.val % E5.p = z) := by rw [← hZ, ← hz']; exact HDD
          subst hZ hz'
          go_wp2_with (first
            | (refine wpList_load_row (o := ⟨some 121, .load 26 _, _, _, _, _⟩) rfl 26 _ rfl (P) rfl _ Y.cells (0, 0) _ r10 Try.underlying26 rfl (by kernel_rfl) ?_)
            | (refine wpList_store_row (op := ⟨none, .store 26 (.tmp 5) (.tmp 121), _, _, _, _⟩) rfl 26 _ _ rfl X5 _ _ Y.cells rfl rfl rX (Eq.trans (b := 5) rfl rfl) (by kernel_rfl) (by kernel_rfl) ?_; intro w5 s5))
          go_roundw
          case rel => exact ⟨i + 1, Y, d, by omega, by omega, by go_num, by first | rfl | rw [hSD], OZ, HZ, s5.row, (B4.out.trans (hcur.mono B4.out.size)).trans (s5.below _ (by omega))⟩
          case measure => (simp [intOf] <;> omega)
    · have hend : ¬ (i : Int) < (n : Int) ∨ ((i : Int) < (n : Int) ∧ i = 30) := by omega
      rcases hend with h1 | ⟨h1, rfl⟩
      all_goals
        go_wp2_with (first
          | (refine wpList_load_row (o := ⟨some 123, .load 26 _, _, _, _, _⟩) rfl 26 _ rfl X5 rfl _ X.cells (0, 0) _ rX Try.underlying26 rfl (by kernel_rfl) ?_)
          | (go_at_call 11; refine (text_as (x := X) OX.out a HA.out _).mono ?_; rintro e w' ⟨rfl, hq⟩))
        go_ret
        exact ⟨rfl, bel.trans (hq.mono bel.size)⟩
theorem walk {H : Type} {enc : TypeId × Value → H} (w : World) (base : Nat) (v0 v1 : Value) (d0 d1 : DataW H) (p0 p1 : List MemPlace)
    (k0 : Value.okWide Try.prog w .any base 22 v0) (k1 : Value.okWide Try.prog w .any base 38 v1)
    (h0 : DataW.Trod enc Try.prog w 0 (fun _ => true) true 22 v0 d0 p0) (h1 : DataW.Trod enc Try.prog w 0 (fun _ => true) true 38 v1 d1 p1) :
    Calls Try.prog 6 #[v0, v1] w fun e w' => e = .returned (.bool true) ∧ Below w.heap.size w w' := by
  obtain ⟨f0, rfl⟩ := open32 k0 h0
  obtain ⟨a, n, c, f, F, rfl, h, hn, hc⟩ := open_ops k1 h1
  exact law_any f0 a n c f F w h hn hc
set_option maxRecDepth 100000 in
theorem lifted (os : Os) (started : os.Started) (H : Type) (enc : TypeId × Value → H) :
    ReturnsInHanded {} Try.checked os 6 .any (Rows.fieldRunsSpec.pre6 enc Try.prog Try.f6 Rows.fieldRunsRow.domain false) (Rows.fieldRunsSpec.post enc Try.prog Try.f6 false true false false) := by
  refine returnsInHanded_of_change (C := Try.checked) own started (by kernel_rfl) Try.func6
    (ChangeSpec.witness6 (enc := enc) (C := Try.checked) false ⟨#[], #[.agg (Array.replicate 32 (.int .u8 0)), .slice none 0 0], []⟩ 8 (by kernel_rfl) (by kernel_rfl) (by kernel_rfl) (by kernel_rfl)) ?_
  intro W base args ds gs before hval0 hW hcnd _
  have hval : ∀ (j : Nat) t v, Try.f6.params[j]? = some t → args[j]? = some v → Value.okWide Try.prog W .any base t v := hval0
  have hW' := hW
  obtain ⟨p, q, hA0, hV, rfl, hfz, hnd⟩ := hW
  have hA : DataW.TrodAll enc Try.prog W 0 (fun _ => true) true Try.f6.params.toList args.toList ds p := hA0
  rw [Try.params6] at hA hval
  obtain ⟨v0, vs0, d0, ds0, p0, q0, hargs, rfl, rfl, h0, r0⟩ := trodAll_cons hA
  obtain ⟨v1, vs1, d1, ds1, p1, q1, rfl, rfl, rfl, h1, r1⟩ := trodAll_cons r0
  obtain ⟨rfl, rfl, rfl⟩ := trodAll_nil r1
  obtain rfl : args = #[v0, v1] := by cases args; simp_all
  obtain ⟨rfl, rfl⟩ := trodVars_none hV
  have k0 := h0
  have lt0 : ∀ x ∈ p0, x.block < W.heap.size := by obtain ⟨m, hm⟩ := k0; exact DataW.trod_lt m _ _ _ hm
  have k1 := h1
  have lt1 : ∀ x ∈ p1, x.block < W.heap.size := by obtain ⟨m, hm⟩ := k1; exact DataW.trod_lt m _ _ _ hm
  clear hA0 hval0
  refine (walk W base v0 v1 d0 d1 p0 p1 (hval 0 22 v0 rfl rfl) (hval 1 38 v1 rfl rfl) k0 k1).mono fun e W' ⟨he, bel⟩ => ?_
  subst he
  exact ⟨_, rfl, _, _, _, [], _, [], hW', trodAll_mk1 (shut_bool Try.underlying4 _), (trodAll_cons_mk (Below.trod laidOut (by kernel_rfl) (of_decide_eq_true (by kernel_rfl)) k0 bel lt0) (trodAll_cons_mk (Below.trod laidOut (by kernel_rfl) (of_decide_eq_true (by kernel_rfl)) k1 bel lt1) trodAll_mk0)), rfl, bel.frame _, fun h => by cases h⟩
theorem over : Rows.fieldRunsRow.holds Try.pinned (OpenSpec.ofChange Rows.fieldRunsSpec) :=
  OpenClaim.holds_of_wide 6 Try.f6 rfl rfl rfl rfl rfl rfl rfl ⟨rfl, rfl, rfl, rfl, rfl⟩ rfl rfl rfl rfl rfl (by kernel_rfl) Try.func6 (by kernel_rfl)
    (of_decide_eq_true (by kernel_rfl)) (by unfold Func.isWrapper; first | (rw [if_pos (by decide +kernel)]; kernel_rfl) | (rw [if_neg (by decide +kernel)]; exact ⟨rfl, rfl⟩))
    (fun os started H enc _ => lifted os started H enc)
theorem proved : Rows.FieldRunsSaid := over
end Go.Proofs.Ytjaneododongeaa.fieldRuns
