/-
  FlowDoors holds: in every row of calls the doors of either end answer as the document says; a refused call changes nothing. No conditions.
-/
import Derived.Test.YtjaneododongeabRows
import Derived.Test.YtjaneododongeabFlowJ
import Derived.WalkKit
import Derived.ProofKit
import Derived.OpenShut
import Derived.ShutString
import Derived.ChangeOld
import Derived.Below
import Derived.Deep.DeepCutAuto
import Derived.Deep.Upon
import Derived.Deep.AppendSrc
import Derived.SizedLaws
namespace Go.Proofs.Ytjaneododongeab.flowDoors
open Go Go.ChangeShapes Go.WideShapes Go.ChangeAt Go.RowKit Go.BigFrame
set_option linter.unusedVariables false
theorem own : ownKnob Try.prog.godebug = none := by kernel_rfl
theorem laidOut : laidOutB Try.prog = true := by kernel_rfl
open Go.Maps
set_option maxHeartbeats 40000000 in
set_option maxRecDepth 100000 in
theorem law_any (srv : Bool) (W : Int) (a : Option Addr) (n c : Nat) (f g : Nat → Int) (w : World) (h : DealsIn w a n f g) (hn : n ≤ c) (hc : c ≤ maxLen) :
    Calls Try.prog 4 #[.bool srv, .int .i64 W, .slice a n c] w fun e w' => e = .returned (.bool true) ∧ Below w.heap.size w w' := by
  have hn63 : n ≤ 9223372036854775807 := by unfold maxLen at hc; omega
  go_enter Try.func4, Try.ntmps4
  by_cases hW : W < 1 ∨ 32 < W
  · have hW2 : W < 1 ∨ (¬ W < 1 ∧ 32 < W) := by omega
    rcases hW2 with hW2 | ⟨hW2, hW3⟩
    all_goals
      go_wp2_with (first
        | (go_at_call 21; refine (closed_any _).mono ?_; rintro e w' ⟨rfl, rfl⟩)
        | (go_at_call 22; refine (allowD_nil _ _).mono ?_; rintro e w' ⟨rfl, rfl⟩)
        | (go_at_call 23; refine (come_nil _ _).mono ?_; rintro e w' ⟨rfl, rfl⟩)
        | (go_at_call 11; refine (counts_any _).mono ?_; rintro e w1 ⟨rfl, hb1⟩)
        | (go_at_call 24; refine (leave_nil _ _).mono ?_; rintro e w' ⟨rfl, rfl⟩)
        | (go_at_call 25; refine (newDoors_bad srv W hW _).mono ?_; rintro e w' ⟨rfl, rfl⟩))
      go_ret
      exact ⟨rfl, hb1⟩
  · have hW1 : 1 ≤ W := by omega
    have hW2 : W ≤ 32 := by omega
    clear hW
    go_wp2_with (first
      | (go_at_call 21; refine (closed_any _).mono ?_; rintro e w' ⟨rfl, rfl⟩)
        | (go_at_call 22; refine (allowD_nil _ _).mono ?_; rintro e w' ⟨rfl, rfl⟩)
        | (go_at_call 23; refine (come_nil _ _).mono ?_; rintro e w' ⟨rfl, rfl⟩)
        | (go_at_call 11; refine (counts_any _).mono ?_; rintro e w1 ⟨rfl, hb1⟩)
        | (go_at_call 24; refine (leave_nil _ _).mono ?_; rintro e w' ⟨rfl, rfl⟩))
    refine (newDoors_any srv W hW1 hW2 _).mono ?_
    rintro e w2 ⟨rfl, hb2, hm2, hr2⟩
    have hq : w.heap.size ≤ w1.heap.size := hb1.size
    have hbel := hb1.trans (hb2.mono hq)
    obtain ⟨B, hB⟩ : ∃ B, w1.heap.size = B := ⟨_, rfl⟩
    rw [hB] at hm2 hr2 hq
    simp only [hB]
    have l2 := lt_row hr2
    obtain ⟨r, hr⟩ : ∃ r, w2.heap.size = r := ⟨_, rfl⟩
    rw [hr] at l2
    obtain ⟨wz, hwz⟩ : ∃ wz, w2.alloc (.cells (rdC (.slice none 0 0) ⟨srv, W, 0, 0, 0, W, 0⟩) RD) = wz := ⟨_, rfl⟩
    have I0 : Inv wz (B + 1) B r w.heap.size srv W 0 := by
      rw [← hwz]
      refine inv_start hW1 hW2 ((heap_alloc_old w2 _ (by omega)).trans hr2) ((heap_alloc_old w2 _ (by omega)).trans hm2) (by rw [← hr]; exact heap_alloc_last _ _) (by omega) (by omega) (by omega) (by omega) (by omega) (by omega)
    have hbz : Below w.heap.size w wz := by rw [← hwz]; exact hbel.alloc (by omega) _
    have HZ := Lib.hid hwz
    have HR := Lib.hid hr
    clear hwz hr hb1 hb2 hm2 hr2 hbel hB
    go_wp2_with fail
    have HD := Lib.hid h.2
    clear h
    have e1 := HR.out
    have e2 : w2.alloc (.cells #[.bool srv, .int .i64 W, .int .i64 0, .int .i64 0, .int .i64 0, .int .i64 W, .slice none 0 0, .int .i64 0] RD) = wz := HZ.out
    simp only [e1]
    rw [show w2.alloc (.cells #[.bool srv, .int .i64 W, .int .i64 0, .int .i64 0, .int .i64 0, .int .i64 W, .slice none 0 0, .int .i64 0] 49) = wz from e2]
    clear e1 e2 HZ HR w2
    go_loopw [11] (fun s wr => ∃ i : Nat, i ≤ n ∧ i ≤ 80 ∧ s = .int .i64 (i : Int) ∧ Inv wr (B + 1) B r w.heap.size srv W i ∧ Below w.heap.size w wr) (fun s _ => n - (intOf s).toNat)
    case atStart => exact ⟨0, by omega, by omega, rfl, I0, hbz⟩
    case round =>
      clear I0 hbz
      obtain ⟨i, hi, hi80, rfl, hI, bel⟩ := hrel
      have HI := Lib.hid hI
      have BEL := Lib.hid bel
      clear hI bel
      by_cases hlt : i < n
      · have hltI : (i : Int) < (n : Int) := by omega
        by_cases h80 : i < 80
        · have h80I : (i : Int) < 80 := by omega
          obtain ⟨hg, h0 | ⟨b, off, rfl, hbl, hcell⟩⟩ := HD.out
          · omega
          have kf := (BEL.out.cell (p := ⟨b, off + i * 2, none⟩) hbl).trans (hcell i hlt).1
          have kg := (BEL.out.cell (p := ⟨b, off + i * 2 + 1, none⟩) hbl).trans (hcell i hlt).2
          have hgi := hg i
          clear hg hcell
          generalize g i = N at *
          by_cases hf0 : f i ≠ 1 ∧ f i ≠ 2 ∧ f i ≠ 3 ∧ f i ≠ 4 ∧ f i ≠ 5
          · obtain ⟨n1, n2, n3, n4, n5⟩ := hf0
            generalize f i = X at *
            have m1 : (X == 1) = false := by simp [n1]
            have m2 : (X == 2) = false := by simp [n2]
            have m3 : (X == 3) = false := by simp [n3]
            have m4 : (X == 4) = false := by simp [n4]
            have m5 : (X == 5) = false := by simp [n5]
            go_wp2_with fail
            go_roundw
            case rel => exact ⟨i + 1, by omega, by omega, by go_num, inv_step HI.out (by omega), BEL.out⟩
            case measure => (simp [intOf] <;> omega)
          · obtain hf0 | hf0 | hf0 | hf0 | hf0 : f i = 1 ∨ f i = 2 ∨ f i = 3 ∨ f i = 4 ∨ f i = 5 := by omega
            · rw [hf0] at kf
              have G1 := Lib.hid (open_both HI.out (by omega))
              go_wp2_with (first
                | (go_at_call 26; refine (G1.out).mono ?_; rintro e w2 ⟨x, ee, rfl, hq⟩; have G2 := Lib.hid hq; clear hq)
                | (go_at_call 27; refine (G2.out).mono ?_; rintro e w3 ⟨rfl, hI', hB'⟩; have HI' := Lib.hid hI'; have HB' := Lib.hid hB'; clear hI' hB'))
              go_roundw
              case rel => exact ⟨i + 1, by omega, by omega, by go_num, HI'.out, BEL.out.trans HB'.out⟩
              case measure => (simp [intOf] <;> omega)
            · rw [hf0] at kf
              have G1 := Lib.hid (allow_both HI.out (by omega) N)
              go_upto_region 23 with (go_at_call 22; refine (G1.out).mono ?_; rintro e w2 ⟨rfl, hb2, M, gv, d, hM, hr2, hw⟩; have B2 := Lib.hid hb2; have RR := Lib.hid hr2; have HW := Lib.hid hw; clear hb2 hr2 hw)
              by_cases hk1 : N ≤ 1099511627776
              · by_cases hk2 : M < N
                · skip
                  have hv : max M (min N 1099511627776) = N := by omega
                  rw [hv] at HW
                  have c3 := (rd_cells RR.out).2.2.2.1
                  rw [hM] at c3
                  have fr : w2.frozen? ⟨r, 3, none⟩ = false := frozen_of_row _ _ _ _ _ RR.out
                  go_wp2_with fail
                  have q3 := rowSet_cell w2 r 3 RD _ (.int .i64 (N)) RR.out
                  obtain ⟨hI', hB'⟩ := HW.out _ q3
                  have HI' := Lib.hid hI'
                  have HB' := Lib.hid hB'
                  clear hI' hB' q3 fr c3
                  go_roundw
                  case rel => exact ⟨i + 1, by omega, by omega, by go_num, HI'.out, (BEL.out.trans B2.out).trans HB'.out⟩
                  case measure => (simp [intOf] <;> omega)
                · skip
                  have hv : max M (min N 1099511627776) = M := by omega
                  rw [hv] at HW
                  have c3 := (rd_cells RR.out).2.2.2.1
                  rw [hM] at c3
                  have fr : w2.frozen? ⟨r, 3, none⟩ = false := frozen_of_row _ _ _ _ _ RR.out
                  go_wp2_with fail
                  have q3 := rowSet_cell w2 r 3 RD _ (.int .i64 (M)) RR.out
                  obtain ⟨hI', hB'⟩ := HW.out _ q3
                  have HI' := Lib.hid hI'
                  have HB' := Lib.hid hB'
                  clear hI' hB' q3 fr c3
                  go_roundw
                  case rel => exact ⟨i + 1, by omega, by omega, by go_num, HI'.out, (BEL.out.trans B2.out).trans HB'.out⟩
                  case measure => (simp [intOf] <;> omega)
              · by_cases hk3 : M < 1099511627776
                · skip
                  have hv : max M (min N 1099511627776) = 1099511627776 := by omega
                  rw [hv] at HW
                  have c3 := (rd_cells RR.out).2.2.2.1
                  rw [hM] at c3
                  have fr : w2.frozen? ⟨r, 3, none⟩ = false := frozen_of_row _ _ _ _ _ RR.out
                  go_wp2_with fail
                  have q3 := rowSet_cell w2 r 3 RD _ (.int .i64 (1099511627776)) RR.out
                  obtain ⟨hI', hB'⟩ := HW.out _ q3
                  have HI' := Lib.hid hI'
                  have HB' := Lib.hid hB'
                  clear hI' hB' q3 fr c3
                  go_roundw
                  case rel => exact ⟨i + 1, by omega, by omega, by go_num, HI'.out, (BEL.out.trans B2.out).trans HB'.out⟩
                  case measure => (simp [intOf] <;> omega)
                · skip
                  have hv : max M (min N 1099511627776) = M := by omega
                  rw [hv] at HW
                  have c3 := (rd_cells RR.out).2.2.2.1
                  rw [hM] at c3
                  have fr : w2.frozen? ⟨r, 3, none⟩ = false := frozen_of_row _ _ _ _ _ RR.out
                  go_wp2_with fail
                  have q3 := rowSet_cell w2 r 3 RD _ (.int .i64 (M)) RR.out
                  obtain ⟨hI', hB'⟩ := HW.out _ q3
                  have HI' := Lib.hid hI'
                  have HB' := Lib.hid hB'
                  clear hI' hB' q3 fr c3
                  go_roundw
                  case rel => exact ⟨i + 1, by omega, by omega, by go_num, HI'.out, (BEL.out.trans B2.out).trans HB'.out⟩
                  case measure => (simp [intOf] <;> omega)
            · rw [hf0] at kf
              have G1 := Lib.hid (come_both HI.out (by omega) BEL.out.size N)
              go_wp2_with (first
                | (go_at_call 23; refine (G1.out).mono ?_; rintro e w2 ⟨v, x, rfl, hq⟩; have G2 := Lib.hid hq; clear hq)
                | (go_at_call 28; refine (G2.out).mono ?_; rintro e w3 ⟨u, aa, k, cap, gg, rfl, hq⟩; have G3 := Lib.hid hq; clear hq)
                | (go_at_call 29; refine (G3.out.same).mono ?_; rintro e w4 ⟨rfl, hq⟩; have G4 := Lib.hid hq; clear hq))
              obtain rfl := G3.out.isv
              have hk0 := G3.out.kle
              have hgb := G3.out.gb
              go_loopw [21] (fun s wr => ∃ j : Nat, j ≤ k ∧ s = .int .i64 (j : Int) ∧ (∀ q, q ≠ gg → wr.heap[q]? = w4.heap[q]?) ∧ (k = 0 ∨ aa = some ⟨gg, 0, none⟩ ∧ ∃ cur : Array Value, wr.heap[gg]? = some (.cells cur 3 (0, 0)) ∧ k ≤ cur.size) ∧ ∀ B, B ≤ gg → Below B w4 wr) (fun s _ => k - (intOf s).toNat)
              case atStart => exact ⟨0, by omega, rfl, fun q hq => rfl, G3.out.row.imp_right (fun ⟨h1, cur, h2, h3⟩ => ⟨h1, cur, ((G4.out (gg + 1)).block gg (by omega)).trans h2, h3⟩), fun B hB => Below.refl _ _⟩
              case round =>
                rename_i wr2 _
                obtain ⟨j, hj, rfl, hoth, hrow, hbel2⟩ := hrel
                have HO := Lib.hid hoth
                have HB2 := Lib.hid hbel2
                clear hoth hbel2
                by_cases hlj : j < k
                · have hljI : (j : Int) < (k : Int) := by omega
                  obtain ⟨rfl, cur, hcur, hsz⟩ := hrow.resolve_left (by omega)
                  have kc := cell_of_row _ gg j _ _ _ hcur
                  obtain ⟨cj, hcj⟩ : ∃ cj, cur[j]? = some cj := ⟨_, Array.getElem?_eq_getElem (by omega)⟩
                  rw [hcj] at kc
                  have kz := frozen_of_row _ gg j _ _ hcur
                  have HC := Lib.hid hcur
                  clear hcur hcj
                  go_wp2_with fail
                  have q3 := Lib.hid (rowSet_cell _ gg j 3 cur (.int .i64 (-1)) HC.out)
                  go_roundw
                  case rel => exact ⟨j + 1, by omega, by go_num, fun q hq => (q3.out.other q hq).trans (HO.out q hq), .inr ⟨by trivial, _, q3.out.row, by simpa using hsz⟩, fun B hB => (HB2.out B hB).trans (q3.out.below B hB)⟩
                  case measure => (simp [intOf] <;> omega)
                · obtain rfl : j = k := by omega
                  have hI' := G3.out.inv _ (fun q hq hne => (HO.out q hne).trans ((G4.out (q + 1)).block q (by omega)))
                  have hB' := (G3.out.below.trans (G4.out _)).trans (HB2.out _ hgb)
                  have HI' := Lib.hid hI'
                  have HB' := Lib.hid hB'
                  clear hI' hB'
                  go_wp2_with fail
                  go_roundw
                  case rel => exact ⟨i + 1, by omega, by omega, by go_num, HI'.out, BEL.out.trans HB'.out⟩
                  case measure => (simp [intOf] <;> omega)
            · rw [hf0] at kf
              have G1 := Lib.hid (leave_both HI.out (by omega) BEL.out.size N hgi)
              go_wp2_with (first
                | (go_at_call 24; refine (G1.out).mono ?_; rintro e w2 ⟨x, rfl, hq⟩; have G2 := Lib.hid hq; clear hq)
                | (go_at_call 30; refine (G2.out).mono ?_; rintro e w3 ⟨rfl, hI', hB'⟩; have HI' := Lib.hid hI'; have HB' := Lib.hid hB'; clear hI' hB'))
              go_roundw
              case rel => exact ⟨i + 1, by omega, by omega, by go_num, HI'.out, BEL.out.trans HB'.out⟩
              case measure => (simp [intOf] <;> omega)
            · rw [hf0] at kf
              have G1 := Lib.hid (grant_both HI.out (by omega))
              go_wp2_with (first
                | (go_at_call 31; refine (G1.out).mono ?_; rintro e w2 ⟨x, y, rfl, hq⟩; have G2 := Lib.hid hq; clear hq)
                | (go_at_call 32; refine (G2.out).mono ?_; rintro e w3 ⟨rfl, hI', hB'⟩; have HI' := Lib.hid hI'; have HB' := Lib.hid hB'; clear hI' hB'))
              go_roundw
              case rel => exact ⟨i + 1, by omega, by omega, by go_num, HI'.out, BEL.out.trans HB'.out⟩
              case measure => (simp [intOf] <;> omega)
        · obtain rfl : i = 80 := by omega
          go_wp2_with fail
          go_ret
          exact ⟨rfl, BEL.out⟩
      · have hltI : ¬ (i : Int) < (n : Int) := by omega
        go_wp2_with fail
        go_ret
        exact ⟨rfl, BEL.out⟩
theorem walk {H : Type} {enc : TypeId × Value → H} (w : World) (base : Nat) (v0 v1 v2 : Value) (d0 d1 d2 : DataW H) (p0 p1 p2 : List MemPlace)
    (k0 : Value.okWide Try.prog w .any base 4 v0) (k1 : Value.okWide Try.prog w .any base 3 v1) (k2 : Value.okWide Try.prog w .any base 22 v2)
    (h0 : DataW.Trod enc Try.prog w 0 (fun _ => true) true 4 v0 d0 p0) (h1 : DataW.Trod enc Try.prog w 0 (fun _ => true) true 3 v1 d1 p1) (h2 : DataW.Trod enc Try.prog w 0 (fun _ => true) true 22 v2 d2 p2) :
    Calls Try.prog 4 #[v0, v1, v2] w fun e w' => e = .returned (.bool true) ∧ Below w.heap.size w w' := by
  obtain ⟨srv, rfl, _⟩ := open_bool Try.underlying4 k0 h0
  obtain ⟨W, rfl, _⟩ := open_int Try.underlying3 k1 h1
  obtain ⟨a, n, c, f, g, rfl, h, hn, hc⟩ := open_deals k2 h2
  exact law_any srv W a n c f g w h hn hc
set_option maxRecDepth 100000 in
theorem lifted (os : Os) (started : os.Started) (H : Type) (enc : TypeId × Value → H) :
    ReturnsInHanded {} Try.checked os 4 .any (Rows.flowDoorsSpec.pre6 enc Try.prog Try.f4 Rows.flowDoorsRow.domain false) (Rows.flowDoorsSpec.post enc Try.prog Try.f4 false true false false) := by
  refine returnsInHanded_of_change (C := Try.checked) own started (by kernel_rfl) Try.func4
    (ChangeSpec.witness6 (enc := enc) (C := Try.checked) false ⟨#[], #[.bool false, .int .i64 0, .slice none 0 0], []⟩ 8 (by kernel_rfl) (by kernel_rfl) (by kernel_rfl) (by kernel_rfl)) ?_
  intro W base args ds gs before hval0 hW hcnd _
  have hval : ∀ (j : Nat) t v, Try.f4.params[j]? = some t → args[j]? = some v → Value.okWide Try.prog W .any base t v := hval0
  have hW' := hW
  obtain ⟨p, q, hA0, hV, rfl, hfz, hnd⟩ := hW
  have hA : DataW.TrodAll enc Try.prog W 0 (fun _ => true) true Try.f4.params.toList args.toList ds p := hA0
  rw [Try.params4] at hA hval
  obtain ⟨v0, vs0, d0, ds0, p0, q0, hargs, rfl, rfl, h0, r0⟩ := trodAll_cons hA
  obtain ⟨v1, vs1, d1, ds1, p1, q1, rfl, rfl, rfl, h1, r1⟩ := trodAll_cons r0
  obtain ⟨v2, vs2, d2, ds2, p2, q2, rfl, rfl, rfl, h2, r2⟩ := trodAll_cons r1
  obtain ⟨rfl, rfl, rfl⟩ := trodAll_nil r2
  obtain rfl : args = #[v0, v1, v2] := by cases args; simp_all
  obtain ⟨rfl, rfl⟩ := trodVars_none hV
  have k0 := h0
  have lt0 : ∀ x ∈ p0, x.block < W.heap.size := by obtain ⟨m, hm⟩ := k0; exact DataW.trod_lt m _ _ _ hm
  have k1 := h1
  have lt1 : ∀ x ∈ p1, x.block < W.heap.size := by obtain ⟨m, hm⟩ := k1; exact DataW.trod_lt m _ _ _ hm
  have k2 := h2
  have lt2 : ∀ x ∈ p2, x.block < W.heap.size := by obtain ⟨m, hm⟩ := k2; exact DataW.trod_lt m _ _ _ hm
  clear hA0 hval0
  refine (walk W base v0 v1 v2 d0 d1 d2 p0 p1 p2 (hval 0 4 v0 rfl rfl) (hval 1 3 v1 rfl rfl) (hval 2 22 v2 rfl rfl) k0 k1 k2).mono fun e W' ⟨he, bel⟩ => ?_
  subst he
  exact ⟨_, rfl, _, _, _, [], _, [], hW', trodAll_mk1 (shut_bool Try.underlying4 _), (trodAll_cons_mk (Below.trod laidOut (by kernel_rfl) (of_decide_eq_true (by kernel_rfl)) k0 bel lt0) (trodAll_cons_mk (Below.trod laidOut (by kernel_rfl) (of_decide_eq_true (by kernel_rfl)) k1 bel lt1) (trodAll_cons_mk (Below.trod laidOut (by kernel_rfl) (of_decide_eq_true (by kernel_rfl)) k2 bel lt2) trodAll_mk0))), rfl, bel.frame _, fun h => by cases h⟩
theorem over : Rows.flowDoorsRow.holds Try.pinned (OpenSpec.ofChange Rows.flowDoorsSpec) :=
  OpenClaim.holds_of_wide 4 Try.f4 rfl rfl rfl rfl rfl rfl rfl ⟨rfl, rfl, rfl, rfl, rfl⟩ rfl rfl rfl rfl rfl (by kernel_rfl) Try.func4 (by kernel_rfl)
    (of_decide_eq_true (by kernel_rfl)) (by unfold Func.isWrapper; first | (rw [if_pos (by decide +kernel)]; kernel_rfl) | (rw [if_neg (by decide +kernel)]; exact ⟨rfl, rfl⟩))
    (fun os started H enc _ => lifted os started H enc)
theorem proved : Rows.FlowDoorsSaid := over
end Go.Proofs.Ytjaneododongeab.flowDoors
