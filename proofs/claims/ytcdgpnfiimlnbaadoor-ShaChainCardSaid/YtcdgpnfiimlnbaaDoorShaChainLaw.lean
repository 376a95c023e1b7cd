/-
  A Mac is two sums, of the key put together with two bytes, made of Sum alone; an empty key is one of noughts, of any count up to a block, at the commit of COMMIT; the table of sha's constants holds what the program's text lays.
-/
import Derived.Test.YtcdgpnfiimlnbaaDoorRows
import Derived.Test.YtcdgpnfiimlnbaaDoorCards
import Derived.Test.YtcdgpnfiimlnbaaDoorTie
import Derived.Test.YtcdgpnfiimlnbaaDoorShaDoor
import Derived.Test.YtcdgpnfiimlnbaaDoorShaM
import Derived.WalkKit
import Derived.ProofKit
import Derived.OpenShut
import Derived.ShutString
import Derived.ChangeOld
import Derived.Below
import Derived.Deep.DeepCutAuto
import Derived.Deep.Upon
import Derived.Deep.AppendSrc
import Derived.SevenTiedAt
import Derived.LaidMore
import Derived.SizedLaws
import Derived.Lib.SmallJoins
namespace Go.Proofs.YtcdgpnfiimlnbaaDoor.shaChain
open Go Go.ChangeShapes Go.WideShapes Go.ChangeAt Go.RowKit Go.BigFrame
set_option linter.unusedVariables false
theorem make64 (w : World) : (Instr.makeSlice 22 (.int .i64 64) (.int .i64 64)).run Tryd.prog w = .ok (.slice (some ⟨w.heap.size, 0, none⟩) 64 64) (w.alloc (.cells (bytesA (fun _ => 0#8) 64) 5)) :=
  run_make_bytes 64 (by omega) w
theorem keyB_low {f : Nat → BitVec 8} {m j : Nat} (hm : m ≤ 64) (h : j < m) : keyB f m j = f j := by unfold keyB; rw [if_pos hm, if_pos h]
theorem keyB_high {f : Nat → BitVec 8} {m j : Nat} (hm : m ≤ 64) (h : ¬ j < m) : keyB f m j = 0#8 := by unfold keyB; rw [if_pos hm, if_neg h]
theorem keyB_noughts (m : Nat) (hm : m ≤ 64) (g : Nat → BitVec 8) : keyB (fun _ => 0#8) m = keyB g 0 := by
  funext j
  by_cases h : j < m
  · rw [keyB_low hm h, keyB_high (by omega) (by omega)]
  · rw [keyB_high hm h, keyB_high (by omega) (by omega)]
theorem macB_congr {K K' p : Nat → BitVec 8} {n : Nat} (h : K = K') : macB K p n = macB K' p n := by rw [h]
theorem made_two (w : World) (o : Obj) : ((w.alloc o).alloc o).drew.heap[w.heap.size]? = some o ∧ ((w.alloc o).alloc o).drew.heap[w.heap.size + 1]? = some o ∧ Below w.heap.size w ((w.alloc o).alloc o).drew :=
  ⟨rows_alloc w [o, o] 0, rows_alloc w [o, o] 1, (((Below.refl _ _).alloc (Nat.le_refl _) _).alloc (by simp) _).drew⟩
set_option maxRecDepth 100000 in
set_option maxHeartbeats 16000000 in
theorem chain_any (a a' : Option Addr) (n c n' c' : Nat) (f g : Nat → BitVec 8) (cut : Int) (w : World) (T : TabK w) (hx : BytesIn w a n f) (hc : n ≤ c) (hcm : c ≤ maxLen) (hy : BytesIn w a' n' g) (hc' : n' ≤ c') (hcm' : c' ≤ maxLen) :
    Calls Tryd.prog 8 #[.slice a n c, .slice a' n' c', .int .i64 cut] w fun e w' => e = .returned (.bool true) ∧ Below w.heap.size w w' := by
  have HX := Lib.hid hx
  have HY := Lib.hid hy
  have TK := Lib.hid T
  have TL := T.lt
  clear hx hy T
  obtain ⟨z, hz⟩ : ∃ z : Nat, IntKind.u64.wrap cut = (z : Int) := ⟨(BitVec.ofInt 64 cut).toNat, by rw [wrap_n64, n64_nat]⟩
  have HZ := Lib.hid hz
  clear hz
  go_enter Tryd.func8, Tryd.ntmps8
  have DG := Lib.hid (fun (w' : World) (hb : Below w.heap.size w w') => digests_any w' (TK.out.later hb))
  by_cases hl : n' ≤ 3000
  · have hlI : ¬ (3000 : Int) < (n' : Int) := by omega
    go_wp2_with fail
    with_reducible refine (DG.out w (Below.refl _ _)).mono ?_
    rintro e w1 ⟨rfl, hb1⟩
    obtain ⟨m, hm⟩ : ∃ m, min n 64 = m := ⟨_, rfl⟩
    have hmn : m ≤ n := by omega
    have hm64 : m ≤ 64 := by omega
    have XB := Lib.hid (bytesIn_upto (bytesIn_ext HX.out hb1) hmn)
    have XBW := Lib.hid (bytesIn_upto HX.out hmn)
    go_upto_region 3 with fail
    go_cut [0] (fun v0 wx => v0 = .slice a m c ∧ wx = w1)
    case first =>
      by_cases h64 : n ≤ 64
      · have h64I : ¬ (64 : Int) < (n : Int) := by omega
        obtain rfl : n = m := by omega
        have hsu := fun w' => run_upto w' a n n c (Nat.le_refl _) hc
        go_wp2_with fail
        go_meet
        exact ⟨rfl, rfl⟩
      · have h64I : (64 : Int) < (n : Int) := by omega
        obtain rfl : 64 = m := by omega
        have hsu : ∀ w', (Instr.sliceAt 22 (.slice a n c) none (some (.int .i64 64)) none).run Tryd.prog w' = .ok (.slice a 64 c) w' := fun w' => run_upto w' a 64 n c hmn hc
        go_wp2_with fail
        go_meet
        exact ⟨rfl, rfl⟩
    obtain ⟨rfl, ewc⟩ := hcut
    rw [ewc]
    clear hm ewc HX
    go_upto_region 4 with fail
    have HB1 := Lib.hid hb1
    go_cut [7, 8] (fun v7 v8 wx => ∃ p q, v7 = .slice (some ⟨p, 0, none⟩) 64 64 ∧ v8 = .slice (some ⟨q, 0, none⟩) 64 64 ∧ p ≠ q ∧ w1.heap.size ≤ p ∧ w1.heap.size ≤ q ∧ wx.heap[p]? = some (.cells (bytesA (fun _ => 0#8) 64) 5 (0, 0)) ∧ wx.heap[q]? = some (.cells (bytesA (fun _ => 0#8) 64) 5 (0, 0)) ∧ Below w1.heap.size w1 wx)
    case first =>
      have hmk := make64
      go_region
      all_goals
        (go_wp2_with fail
         go_meet
         obtain ⟨h1, h2, h3⟩ := made_two w1 (.cells (bytesA (fun _ => 0#8) 64) 5)
         first
           | exact ⟨_, _, rfl, rfl, by omega, Nat.le_refl _, by omega, h1, h2, h3⟩
           | exact ⟨_, _, rfl, rfl, by omega, by omega, Nat.le_refl _, h2, h1, h3⟩)
    obtain ⟨p, q, rfl, rfl, hpq, hp1, hq1, rp, rq, bw⟩ := hcut
    have hs1 : w.heap.size ≤ w1.heap.size := hb1.size
    have B2 := Lib.hid (hb1.trans (bw.mono hb1.size))
    have XB2 := Lib.hid (bytesIn_ext XB.out bw)
    have XBL : Hid (m = 0 ∨ ∃ bb bo, a = some ⟨bb, bo, none⟩ ∧ bb < w.heap.size) := Lib.hid (by
      rcases XBW.out.2 with h0 | ⟨bb, bo, e, hb, _⟩
      · exact .inl h0
      · exact .inr ⟨bb, bo, e, hb⟩)
    have P0 := Lib.hid rp
    have Q0 := Lib.hid rq
    have hpl := lt_row rp
    have hql := lt_row rq
    clear rp rq bw hb1 HB1 XB
    have e54 : n8 54#8 = 54 := by unfold n8; rfl
    have e92 : n8 92#8 = 92 := by unfold n8; rfl
    have e0 : n8 0#8 = 0 := by unfold n8; rfl
    have E54 := Lib.hid e54
    have E92 := Lib.hid e92
    have E0 := Lib.hid e0
    clear e54 e92 e0
    go_wp2_with fail
    go_loopw [9] (fun s wr => ∃ i : Nat, i ≤ 64 ∧ s = .int .i64 (i : Int) ∧ wr.heap[p]? = some (.cells (bytesA (fun j => if j < i then xorB (keyB f m) 54#8 j else 0#8) 64) 5 (0, 0)) ∧ wr.heap[q]? = some (.cells (bytesA (fun j => if j < i then xorB (keyB f m) 92#8 j else 0#8) 64) 5 (0, 0)) ∧ Below w1.heap.size wc wr) (fun s _ => 64 - (intOf s).toNat)
    case atStart => exact ⟨0, by omega, rfl, by rw [bytesA_congr (g := fun _ => 0#8) (fun j _ => by rw [if_neg (by omega)])]; exact P0.out, by rw [bytesA_congr (g := fun _ => 0#8) (fun j _ => by rw [if_neg (by omega)])]; exact Q0.out, Below.refl _ _⟩
    case round =>
      obtain ⟨i, hi, rfl, rp, rq, bel⟩ := hrel
      have RP := Lib.hid rp
      have RQ := Lib.hid rq
      have BEL := Lib.hid bel
      clear rp rq bel
      by_cases hlt : i < 64
      · have hlI : (i : Int) < 64 := by omega
        have hlI' : (i : Int) < (64 : Nat) := by omega
        obtain ⟨kb, hkb⟩ : ∃ kb, keyB f m i = kb := ⟨_, rfl⟩
        have kp : wr.cell? ⟨p, i, none⟩ = some (.int .u8 (n8 0#8)) := by rw [row_range RP.out hlt, if_neg (by omega)]
        have kq : wr.cell? ⟨q, i, none⟩ = some (.int .u8 (n8 0#8)) := by rw [row_range RQ.out hlt, if_neg (by omega)]
        have fp : wr.frozen? ⟨p, i, none⟩ = false := frozen_of_row _ _ _ _ _ RP.out
        have fq : wr.frozen? ⟨q, i, none⟩ = false := frozen_of_row _ _ _ _ _ RQ.out
        have S1 := Lib.hid (rowSet_cell wr p i 5 _ (.int .u8 (n8 (kb ^^^ 54#8))) RP.out)
        have S2 := Lib.hid (rowSet_cell (wr.setCell ⟨p, i, none⟩ (.int .u8 (n8 (kb ^^^ 54#8)))) q i 5 _ (.int .u8 (n8 (kb ^^^ 92#8))) (S1.out.keep (k := q) (Ne.symm hpq) RQ.out))
        go_upto_if 37 with fail
        go_cut [10] (fun v10 wx => v10 = .int .u8 (n8 kb) ∧ wx = wr)
        case first =>
          by_cases him : i < m
          · have himI : (i : Int) < (m : Int) := by omega
            obtain ⟨bb, bo, rfl, hbb, hcc⟩ : ∃ bb bo, a = some ⟨bb, bo, none⟩ ∧ bb < w1.heap.size ∧ ∀ i, i < m → wr.cell? ⟨bb, bo + i, none⟩ = some (.int .u8 (n8 (f i))) := by
              rcases XB2.out.2 with h0 | ⟨bb, bo, e, hb, hcell⟩
              · omega
              · rcases XBL.out with h0 | ⟨bb2, bo2, e2, hb2⟩
                · omega
                · rw [e] at e2
                  injection e2 with e2
                  injection e2 with e3 e4
                  exact ⟨bb, bo, e, by omega, fun i hi => by rw [BEL.out.cell (p := ⟨bb, bo + i, none⟩) (by show bb < _; omega)]; exact hcell i hi⟩
            have kc := hcc i him
            go_wp2_with fail
            go_meet
            exact ⟨by rw [← hkb, keyB_low hm64 him], rfl⟩
          · have himI : ¬ (i : Int) < (m : Int) := by omega
            go_wp2_with fail
            go_meet
            exact ⟨by rw [← hkb, keyB_high hm64 him, E0.out], rfl⟩
        obtain ⟨rfl, ewc⟩ := hcut
        rw [ewc]
        clear ewc
        have k54 : n8 (kb ^^^ 54#8) = n8 (kb ^^^ 54#8) := rfl
        have kq2 : (wr.setCell ⟨p, i, none⟩ (.int .u8 (n8 (kb ^^^ 54#8)))).cell? ⟨q, i, none⟩ = some (.int .u8 (n8 0#8)) := by rw [row_range (S1.out.keep (k := q) (Ne.symm hpq) RQ.out) hlt, if_neg (by omega)]
        have fq2 : (wr.setCell ⟨p, i, none⟩ (.int .u8 (n8 (kb ^^^ 54#8)))).frozen? ⟨q, i, none⟩ = false := frozen_of_row _ _ _ _ _ (S1.out.keep (k := q) (Ne.symm hpq) RQ.out)
        clear k54
        go_wp2_with fail
        go_roundw
        case rel =>
          have B3 := (BEL.out.trans (S1.out.below _ hp1)).trans (S2.out.below _ hq1)
          have up : ∀ (x : BitVec 8) (j : Nat), (if j = i then kb ^^^ x else if j < i then xorB (keyB f m) x j else 0#8) = (if j < i + 1 then xorB (keyB f m) x j else 0#8) := fun x j => by
            by_cases e : j = i
            · subst e; rw [if_pos rfl, if_pos (by omega)]; unfold xorB; rw [hkb]
            · rw [if_neg e]
              by_cases e2 : j < i
              · rw [if_pos e2, if_pos (by omega)]
              · rw [if_neg e2, if_neg (by omega)]
          refine ⟨i + 1, by omega, by go_num, ?_, ?_, B3⟩
          · have h := S1.out.row
            rw [bytesA_set, bytesA_congr (g := fun j => if j < i + 1 then xorB (keyB f m) 54#8 j else 0#8) (fun j _ => up _ j)] at h
            exact S2.out.keep (k := p) hpq h
          · have h := S2.out.row
            rw [bytesA_set, bytesA_congr (g := fun j => if j < i + 1 then xorB (keyB f m) 92#8 j else 0#8) (fun j _ => up _ j)] at h
            exact h
        case measure => (simp [intOf] <;> omega)
      · obtain rfl : i = 64 := by omega
        have rp : wr.heap[p]? = some (.cells (bytesA (xorB (keyB f m) 54#8) 64) 5 (0, 0)) := by
          have h := RP.out
          rw [bytesA_congr (g := xorB (keyB f m) 54#8) (fun j hj => by rw [if_pos hj])] at h
          exact h
        have rq : wr.heap[q]? = some (.cells (bytesA (xorB (keyB f m) 92#8) 64) 5 (0, 0)) := by
          have h := RQ.out
          rw [bytesA_congr (g := xorB (keyB f m) 92#8) (fun j hj => by rw [if_pos hj])] at h
          exact h
        have T3 := Lib.hid (TK.out.later (B2.out.trans (BEL.out.mono hs1)))
        have B3 := Lib.hid (B2.out.trans (BEL.out.mono hs1))
        have P3 := Lib.hid rp
        have Q3 := Lib.hid rq
        have hpr := lt_row rp
        have hqr := lt_row rq
        clear hlt hi rp rq RP RQ P0 Q0 XB2 E0
        -- the inner sum
        go_wp2_with fail
        with_reducible refine (new_any wr).mono ?_
        rintro e w4 ⟨rfl, hr4, hb4, hz4⟩
        obtain ⟨x, hxd⟩ : ∃ x, wr.heap.size = x := ⟨_, rfl⟩
        have P4 := (hb4.block p hpr).trans P3.out
        have Q4 := (hb4.block q hqr).trans Q3.out
        have B4 := B3.out.trans (hb4.mono B3.out.size)
        have hwx : w.heap.size ≤ wr.heap.size := B3.out.size
        rw [hxd] at hr4 hz4 hpr hqr hwx ⊢
        have W4 := Lib.hid (write_any x 0 64 64 (xorB (keyB f m) 54#8) (xorB (keyB f m) 54#8) (some ⟨p, 0, none⟩) w4 (TK.out.later B4) (by omega) (hashSt_zero _ hr4) (row_bytesIn P4 64 (Nat.le_refl _) (by unfold maxLen; omega)) (Nat.le_refl _) (by unfold maxLen; omega)
          (fun _ y hy => by injection hy with hy; subst hy; show p ≠ x; omega) (by omega))
        have Q4' := Lib.hid Q4
        have B4' := Lib.hid B4
        clear hr4 hb4 P4 Q4 B4 P3 Q3 T3 B3 hxd BEL
        go_wp2_with fail
        with_reducible refine W4.out.mono ?_
        rintro e w5 ⟨rfl, st5, ch5⟩
        rw [joinb_zero, Nat.zero_add] at st5
        have B5 := Lib.hid (B4'.out.trans (ch5.below hwx B4'.out.size))
        have Q5 := Lib.hid (ch5.row (k := q) (by omega) Q4'.out)
        have W5 := Lib.hid (write_any x 64 n' c' (xorB (keyB f m) 54#8) g a' w5 (TK.out.later B5.out) (by omega) st5 (bytesIn_ext HY.out B5.out) hc' hcm' (fun hm y hy => by have := bytesIn_lt HY.out hm y hy; omega) (by omega))
        clear st5 ch5 W4 Q4' B4' hz4
        go_wp2_with fail
        with_reducible refine W5.out.mono ?_
        rintro e w6 ⟨rfl, st6, ch6⟩
        have B6 := Lib.hid (B5.out.trans (ch6.below hwx B5.out.size))
        have Q6 := Lib.hid (ch6.row (k := q) (by omega) Q5.out)
        have S6 := Lib.hid (sum_any (some ⟨x, 0, none⟩) (64 + n') _ w6 (TK.out.later B6.out) (.inr ⟨x, rfl, st6⟩) (by omega))
        clear st6 ch6 W5 Q5 B5
        go_wp2_with fail
        with_reducible refine S6.out.mono ?_
        rintro e w7 ⟨rfl, hb7⟩
        obtain ⟨inn, hin⟩ : ∃ inn, sumS (joinb (xorB (keyB f m) 54#8) 64 g) (64 + n') = inn := ⟨_, rfl⟩
        have HIN := Lib.hid hin
        have hin' : sumB kW startW (joinb (xorB (keyB f m) 54#8) 64 g) (64 + n') = inn := hin
        simp only [hin']
        clear hin hin' S6
        have hal : Below w7.heap.size w7 (w7.alloc (.cells (bytesA inn 32) 24)) := (Below.refl _ _).alloc (Nat.le_refl _) _
        have hal2 : (w7.alloc (.cells (bytesA inn 32) 24)).heap[w7.heap.size]? = some (.cells (bytesA inn 32) 24 (0, 0)) := heap_alloc_last _ _
        go_upto_region 16 with (first
          | (refine wpList_alloc_row (o := ⟨some 12, .alloc 24, _, _, _, _⟩) rfl 24 rfl _ zero_32 ?_)
          | (refine wpList_store_new (o := ⟨none, .store 24 (.tmp 12) (.tmp 60), _, _, _, _⟩) rfl 24 _ _ rfl (bytesA (fun _ => 0#8) 32) (bytesA inn 32) _ rfl rfl rfl (by rw [bytesA_size]; kernel_rfl) (by rw [bytesA_size, bytesA_size]) (bytesA_one _ _) ?_))
        obtain ⟨w8, hw8⟩ : ∃ w8, w7.alloc (.cells (bytesA inn 32) 24) = w8 := ⟨_, rfl⟩
        rw [hw8] at hal hal2
        simp only [hw8]
        have E8 : Below w6.heap.size w6 w8 := hb7.trans (hal.mono hb7.size)
        have B8 := Lib.hid (B6.out.trans (E8.mono B6.out.size))
        have Q8 := Lib.hid ((E8.block q (lt_row Q6.out)).trans Q6.out)
        have hq6 := lt_row Q6.out
        have h67 := hb7.size
        obtain ⟨s, hs⟩ : ∃ s, w7.heap.size = s := ⟨_, rfl⟩
        rw [hs] at hal2 h67
        simp only [hs]
        have U8 := Lib.hid hal2
        have hqs : q ≠ s := by omega
        clear hal hal2 hw8 hs hb7 E8 Q6 B6 hq6 h67
        -- the outer sum
        go_wp2_with fail
        with_reducible refine (new_any w8).mono ?_
        rintro e w9 ⟨rfl, hr9, hb9, hz9⟩
        have U9 := (hb9.block s (lt_row U8.out)).trans U8.out
        have Q9 := (hb9.block q (lt_row Q8.out)).trans Q8.out
        have B9 := B8.out.trans (hb9.mono B8.out.size)
        have hq8 := lt_row Q8.out
        have hs8 := lt_row U8.out
        have hw8 : w.heap.size ≤ w8.heap.size := B8.out.size
        obtain ⟨y, hyd⟩ : ∃ y, w8.heap.size = y := ⟨_, rfl⟩
        rw [hyd] at hr9 hz9 hq8 hs8 hw8 ⊢
        have W9 := Lib.hid (write_any y 0 64 64 (xorB (keyB f m) 92#8) (xorB (keyB f m) 92#8) (some ⟨q, 0, none⟩) w9 (TK.out.later B9) (by omega) (hashSt_zero _ hr9) (row_bytesIn Q9 64 (Nat.le_refl _) (by unfold maxLen; omega)) (Nat.le_refl _) (by unfold maxLen; omega)
          (fun _ t ht => by injection ht with ht; subst ht; show q ≠ y; omega) (by omega))
        have B9' := Lib.hid B9
        have U9' := Lib.hid U9
        clear hr9 hb9 Q9 B9 U9 hyd Q8 U8 B8
        go_wp2_with fail
        with_reducible refine W9.out.mono ?_
        rintro e w10 ⟨rfl, st10, ch10⟩
        rw [joinb_zero, Nat.zero_add] at st10
        have B10 := Lib.hid (B9'.out.trans (ch10.below hw8 B9'.out.size))
        have U10 := ch10.row (k := s) (by omega) U9'.out
        have hall := fun w' => run_arr32_all w' s
        have W10 := Lib.hid (write_any y 64 32 32 (xorB (keyB f m) 92#8) inn (some ⟨s, 0, none⟩) w10 (TK.out.later B10.out) (by omega) st10 (row_bytesIn U10 32 (Nat.le_refl _) (by unfold maxLen; omega)) (Nat.le_refl _) (by unfold maxLen; omega)
          (fun _ t ht => by injection ht with ht; subst ht; show s ≠ y; omega) (by omega))
        clear st10 ch10 W9 B9' U9' U10 hz9
        go_wp2_with fail
        with_reducible refine W10.out.mono ?_
        rintro e w11 ⟨rfl, st11, ch11⟩
        have B11 := Lib.hid (B10.out.trans (ch11.below hw8 B10.out.size))
        have ST := Lib.hid st11
        clear st11 ch11 W10 B10 hall
        go_upto_region 19 with fail
        obtain ⟨k, hk⟩ : ∃ k : Nat, z % 65 = k := ⟨_, rfl⟩
        have hk64 : k ≤ 64 := by omega
        have hkI : (z : Int) % 65 = (k : Int) := by omega
        have HKI := Lib.hid hkI
        have hw : wrap64 (k : Int) = (k : Int) := IntWalk.wrap64_in _ (by omega)
        have HW := Lib.hid hw
        have hz := HZ.out
        clear hk hkI hw
        go_cut [14] (fun v14 wx => v14 = .int .i64 (k : Int) ∧ wx = w11)
        case first =>
          go_wp2_with fail
          go_meet
          exact ⟨by first | rw [HKI.out, HW.out] | rw [HKI.out], rfl⟩
        obtain ⟨rfl, ewc⟩ := hcut
        rw [ewc]
        clear ewc hz
        have hfin : sumB kW startW (joinb (xorB (keyB f m) 92#8) 64 inn) (64 + 32) = macB (keyB f m) g n' := by unfold macB; rw [HIN.out]; rfl
        obtain ⟨mc, hmc⟩ : ∃ mc, macB (keyB f m) g n' = mc := ⟨_, rfl⟩
        obtain ⟨me, hme⟩ : ∃ me, macB (keyB f 0) g n' = me := ⟨_, rfl⟩
        rw [hmc] at hfin
        have X11 := bytesIn_ext XBW.out B11.out
        have Y11 := bytesIn_ext HY.out B11.out
        have T11 := TK.out.later B11.out
        have SY := Lib.hid (sum_any (some ⟨y, 0, none⟩) (64 + 32) _ w11 T11 (.inr ⟨y, rfl, ST.out⟩) (by omega))
        rw [hfin] at SY
        have MA := Lib.hid (fun (w' : World) (hb : Below w11.heap.size w11 w') => mac_any m c n' c' f g a a' w' (T11.later hb) (bytesIn_ext X11 hb) (by omega) hcm (by omega) (bytesIn_ext Y11 hb) hc' hcm' (by omega))
        rw [hmc] at MA
        have MB := Lib.hid (fun (w' : World) (b : Nat) (hb : Below w11.heap.size w11 w') (hr : w'.heap[b]? = some (.cells (bytesA (fun _ => 0#8) k) 5 (0, 0))) => mac_any k k n' c' (fun _ => 0#8) g (some ⟨b, 0, none⟩) a' w' (T11.later hb) (row_bytesIn hr k (Nat.le_refl _) (by unfold maxLen; omega)) (Nat.le_refl _) (by unfold maxLen; omega) (by omega) (bytesIn_ext Y11 hb) hc' hcm' (by omega))
        have ek : keyB (fun _ => 0#8) k = keyB f 0 := keyB_noughts k hk64 f
        rw [ek, hme] at MB
        have MC := Lib.hid (fun (w' : World) (hb : Below w11.heap.size w11 w') => mac_any 0 0 n' c' f g none a' w' (T11.later hb) ⟨Nat.zero_le _, .inl rfl⟩ (Nat.le_refl _) (Nat.zero_le _) (by omega) (bytesIn_ext Y11 hb) hc' hcm' (by omega))
        rw [hme] at MC
        clear X11 Y11 T11 ek hfin hmc hme ST
        have eq1 := eq32_same mc
        have eq2 := eq32_same me
        have hmk : ∀ w', (Instr.makeSlice 22 (.int .i64 (k : Int)) (.int .i64 (k : Int))).run Tryd.prog w' = .ok (.slice (some ⟨w'.heap.size, 0, none⟩) k k) (w'.alloc (.cells (bytesA (fun _ => 0#8) k) 5)) := fun w' => run_make_bytes k (by omega) w'
        go_wp2_with fail
        with_reducible refine SY.out.mono ?_
        rintro e w12 ⟨rfl, hb12⟩
        go_wp2_with fail
        with_reducible refine (MA.out w12 hb12).mono ?_
        rintro e w13 ⟨rfl, hb13'⟩
        have hb13 := hb12.trans (hb13'.mono hb12.size)
        clear hb12 hb13'
        go_wp2_with fail
        have hal := (Below.refl w13.heap.size w13).alloc (Nat.le_refl _) (.cells (bytesA (fun _ => 0#8) k) 5)
        with_reducible refine (MB.out _ w13.heap.size (hb13.trans (hal.mono hb13.size)) (heap_alloc_last _ _)).mono ?_
        rintro e w14 ⟨rfl, hb14'⟩
        have hb14 := (hb13.trans (hal.mono hb13.size)).trans (hb14'.mono (Nat.le_trans hb13.size hal.size))
        clear hb13 hb14' hal
        go_wp2_with fail
        with_reducible refine (MC.out w14 hb14).mono ?_
        rintro e w15 ⟨rfl, hb15'⟩
        have hb15 := hb14.trans (hb15'.mono hb14.size)
        clear hb14 hb15'
        go_wp2_with fail
        go_ret
        exact ⟨rfl, B11.out.trans (hb15.mono B11.out.size)⟩
  · have hlI : (3000 : Int) < (n' : Int) := by omega
    go_wp2_with fail
    with_reducible refine (DG.out w (Below.refl _ _)).mono ?_
    rintro e w1 ⟨rfl, hb1⟩
    go_wp2_with fail
    with_reducible refine (DG.out w1 hb1).mono ?_
    rintro e w2 ⟨rfl, hb2⟩
    go_wp2_with fail
    go_ret
    exact ⟨rfl, hb1.trans (hb2.mono hb1.size)⟩
set_option maxRecDepth 100000 in
theorem walk {H : Type} {enc : TypeId × Value → H} (w : World) (base : Nat) (v0 v1 v2 : Value) (d0 d1 d2 : DataW H) (p0 p1 p2 : List MemPlace)
    (k0 : Value.okWide Tryd.prog w .any base 22 v0) (k1 : Value.okWide Tryd.prog w .any base 22 v1) (k2 : Value.okWide Tryd.prog w .any base 3 v2)
    (h0 : DataW.Trod enc Tryd.prog w 0 (fun _ => true) true 22 v0 d0 p0) (h1 : DataW.Trod enc Tryd.prog w 0 (fun _ => true) true 22 v1 d1 p1) (h2 : DataW.Trod enc Tryd.prog w 0 (fun _ => true) true 3 v2 d2 p2) (tab : TabK w) :
    Calls Tryd.prog 8 #[v0, v1, v2] w fun e w' => e = .returned (.bool true) ∧ Below w.heap.size w w' := by
  obtain ⟨a, n, c, f, rfl, hb, hlc, hm⟩ := open_bytes k0 h0
  obtain ⟨a', n', c', g, rfl, hb', hlc', hm'⟩ := open_bytes k1 h1
  obtain ⟨x, rfl, rfl, rfl, wx⟩ := open_int Tryd.underlying3 k2 h2
  exact chain_any a a' n c n' c' f g x w tab hb hlc hm hb' hlc' hm'
set_option maxRecDepth 100000 in
theorem lifted (os : Os) (started : os.Started) (H : Type) (enc : TypeId × Value → H) :
    ReturnsInHanded {} Tryd.checked os 8 .any (fun w args => (Rows.shaChainSpec.pre enc Tryd.prog Tryd.f8 [] false w args ∧ laidMetH Tryd.prog laids w) ∧ sizedMet enc Tryd.prog Tryd.f8 (OpenSpec.ofChange Rows.shaChainSpec) false w args)
      (Rows.shaChainSpec.post enc Tryd.prog Tryd.f8 false true false false) := by
  refine returnsInHanded_of_change_and (C := Tryd.checked) (X := fun w _ => laidMetH Tryd.prog laids w) (fun _ _ _ hh h => h.of_heap hh) own started (by kernel_rfl) Tryd.func8
    (ChangeSpec.witness_shaped (enc := enc) (C := Tryd.checked) (os := os) (X := fun w _ => laidMetH Tryd.prog laids w) false (World.doorLaid Tryd.prog 14 os) #[.slice none 0 0, .slice none 0 0, .int .i64 0] 8 rfl (World.shaped_of_RefB (by kernel_rfl) (by kernel_rfl)) (by kernel_rfl) (by kernel_rfl) (by kernel_rfl) (door_met os _)) ?_
  intro W base args ds gs before hval0 hW _ _ hL _
  have hval : ∀ (j : Nat) t v, Tryd.f8.params[j]? = some t → args[j]? = some v → Value.okWide Tryd.prog W .any base t v := hval0
  have hW' := hW
  obtain ⟨p, q, hA0, hV, rfl, hfz, hnd⟩ := hW
  have hA : DataW.TrodAll enc Tryd.prog W 0 (fun _ => true) true Tryd.f8.params.toList args.toList ds p := hA0
  rw [Tryd.params8] at hA hval
  obtain ⟨v0, vs0, d0, ds0, p0, q0, hargs, rfl, rfl, h0, r0⟩ := trodAll_cons hA
  obtain ⟨v1, vs1, d1, ds1, p1, q1, rfl, rfl, rfl, h1, r1⟩ := trodAll_cons r0
  obtain ⟨v2, vs2, d2, ds2, p2, q2, rfl, rfl, rfl, h2, r2⟩ := trodAll_cons r1
  obtain ⟨rfl, rfl, rfl⟩ := trodAll_nil r2
  obtain rfl : args = #[v0, v1, v2] := by cases args; simp_all
  obtain ⟨rfl, rfl⟩ := trodVars_none hV
  have k0 := h0
  have lt0 : ∀ x ∈ p0, x.block < W.heap.size := by obtain ⟨m, hm⟩ := k0; exact DataW.trod_lt m _ _ _ hm
  have k1 := h1
  have lt1 : ∀ x ∈ p1, x.block < W.heap.size := by obtain ⟨m, hm⟩ := k1; exact DataW.trod_lt m _ _ _ hm
  have k2 := h2
  have lt2 : ∀ x ∈ p2, x.block < W.heap.size := by obtain ⟨m, hm⟩ := k2; exact DataW.trod_lt m _ _ _ hm
  clear hA0 hval0
  refine (walk W base v0 v1 v2 d0 d1 d2 p0 p1 p2 (hval 0 22 v0 rfl rfl) (hval 1 22 v1 rfl rfl) (hval 2 3 v2 rfl rfl) k0 k1 k2 (tabK_of_laid hL)).mono fun e W' ⟨he, bel⟩ => ?_
  subst he
  exact ⟨_, rfl, _, _, _, [], _, [], hW', trodAll_mk1 (shut_bool Tryd.underlying4 _), (trodAll_cons_mk (Below.trod laidOut (by kernel_rfl) (of_decide_eq_true (by kernel_rfl)) k0 bel lt0) (trodAll_cons_mk (Below.trod laidOut (by kernel_rfl) (of_decide_eq_true (by kernel_rfl)) k1 bel lt1) (trodAll_cons_mk (Below.trod laidOut (by kernel_rfl) (of_decide_eq_true (by kernel_rfl)) k2 bel lt2) trodAll_mk0))), rfl, bel.frame _, fun h => by cases h⟩
theorem over : Rows.ShaChainSaid :=
  OpenClaim.holds_of_wide 8 Tryd.f8 rfl rfl rfl rfl rfl rfl rfl ⟨rfl, rfl, rfl, rfl, rfl⟩ rfl rfl rfl rfl rfl (by kernel_rfl) Tryd.func8 (by kernel_rfl)
    (of_decide_eq_true (by kernel_rfl)) (by unfold Func.isWrapper; first | (rw [if_pos (by decide +kernel)]; kernel_rfl) | (rw [if_neg (by decide +kernel)]; exact ⟨rfl, rfl⟩))
    (fun os started H enc _ => lifted os started H enc)
theorem proved : Rows.ShaChainCardSaid :=
  Claim7.holds_tied_plain_at .later [] [.data] true (true, "087e57aef0719291e6b76ce2e7e1cc2c8340e26022a027d6faef561ff8c63583") false
    over (fun _ h => by cases h) (by kernel_rfl) (fun _ h => by cases h) shaChain_row_tie rfl ⟨rfl, rfl⟩ (by kernel_rfl) rfl
    (fun f fn hf hfn => by
      obtain rfl : f = 8 := Option.some.inj ((show Tryd.prog.funcNamed "rhyne/rhynelaw01.ShaChain" = some 8 by kernel_rfl).symm.trans hf) |>.symm
      obtain rfl : fn = Tryd.f8 := (Option.some.inj (Tryd.func8.symm.trans hfn)).symm
      exact ⟨by kernel_rfl, fun j t ht => by
        rw [Tryd.params8] at ht
        have hm : t ∈ [22, 22, 3] := by simpa using Array.mem_of_getElem? ht
        have hall : ([22, 22, 3].all fun u => !Tryd.prog.wantsStandIn u) = true := by kernel_rfl
        exact (show Tryd.prog.wantsStandIn t = false by simpa using List.all_eq_true.1 hall t hm)⟩)
    (by kernel_rfl)
end Go.Proofs.YtcdgpnfiimlnbaaDoor.shaChain
