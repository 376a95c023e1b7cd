/-
  THE DOCUMENT'S PRODUCT IS THE CODE'S.
-/
import Derived.Test.YtjbpjoondmcnlabDoorMg30
import Derived.Test.YtjbpjoondmcnlabDoorMg06
set_option maxRecDepth 100000
namespace Go.Proofs.YtjbpjoondmcnlabDoor
open Go Go.RowKit Go.BigFrame
set_option maxRecDepth 100000
set_option linter.unusedSimpArgs false
theorem zero_bools2 : (Tryd.prog.info? 153).map (·.zero) = some (some (.agg (boolArr (fun _ => false) 256))) := by kernel_rfl
theorem boolArr_none (n : Nat) : boolArr (0#256).getLsbD n = boolArr (fun _ => false) n := boolArr_congr _ _ _ (fun i _ => by simp)
/-- What Times keeps: both blocks' bits, and the coefficients. -/
structure TSt (w0 : World) (a : Nat) (A B : BitVec 128) (p : BitVec 256) (w : World) : Prop where
  below : Below w0.heap.size w0 w
  x : w.heap[a]? = some (.cells (boolArr A.getLsbD 128) 151 (0, 0))
  y : w.heap[a + 1]? = some (.cells (boolArr B.getLsbD 128) 151 (0, 0))
  p : w.heap[a + 2]? = some (.cells (boolArr p.getLsbD 256) 153 (0, 0))
  new : w0.heap.size ≤ a
theorem TSt.xat {w0 w : World} {a : Nat} {A B : BitVec 128} {p : BitVec 256} (h : TSt w0 a A B p w) (i : Nat) (hi : i < 128) : w.cell? ⟨a, i, none⟩ = some (.bool (A.getLsbD i)) := by
  rw [cell_of_row _ _ _ _ _ _ h.x, boolArr_get _ _ _ hi]
theorem TSt.yat {w0 w : World} {a : Nat} {A B : BitVec 128} {p : BitVec 256} (h : TSt w0 a A B p w) (i : Nat) (hi : i < 128) : w.cell? ⟨a + 1, i, none⟩ = some (.bool (B.getLsbD i)) := by
  rw [cell_of_row _ _ _ _ _ _ h.y, boolArr_get _ _ _ hi]
theorem TSt.pat {w0 w : World} {a : Nat} {A B : BitVec 128} {p : BitVec 256} (h : TSt w0 a A B p w) (i : Nat) (hi : i < 256) : w.cell? ⟨a + 2, i, none⟩ = some (.bool (p.getLsbD i)) := by
  rw [cell_of_row _ _ _ _ _ _ h.p, boolArr_get _ _ _ hi]
theorem TSt.free {w0 w : World} {a : Nat} {A B : BitVec 128} {p : BitVec 256} (h : TSt w0 a A B p w) (i : Nat) : w.frozen? ⟨a + 2, i, none⟩ = false := frozen_of_row _ _ _ _ _ h.p
theorem TSt.tog {w0 w : World} {a : Nat} {A B : BitVec 128} {p : BitVec 256} (h : TSt w0 a A B p w) (j : Nat) (hj : j < 256) : TSt w0 a A B (p ^^^ 1#256 <<< j) (w.setCell ⟨a + 2, j, none⟩ (.bool (!p.getLsbD j))) :=
  ⟨h.below.setCell (show w0.heap.size ≤ a + 2 from Nat.le_trans h.new (by omega)) _, by rw [heap_setCell_other _ _ _ _ (show a ≠ a + 2 by omega)]; exact h.x,
    by rw [heap_setCell_other _ _ _ _ (show a + 1 ≠ a + 2 by omega)]; exact h.y, tog_row h.p j hj _ rfl, h.new⟩
theorem TSt.other {w0 w : World} {a o j : Nat} {A B : BitVec 128} {p : BitVec 256} (h : TSt w0 a A B p w) (ho : a + 2 < o) (v : Value) : TSt w0 a A B p (w.setCell ⟨o, j, none⟩ v) :=
  ⟨h.below.setCell (show w0.heap.size ≤ o from Nat.le_trans h.new (by omega)) _, by rw [heap_setCell_other _ _ _ _ (show a ≠ o by omega)]; exact h.x,
    by rw [heap_setCell_other _ _ _ _ (show a + 1 ≠ o by omega)]; exact h.y, by rw [heap_setCell_other _ _ _ _ (show a + 2 ≠ o by omega)]; exact h.p, h.new⟩
theorem TSt.drew {w0 w : World} {a : Nat} {A B : BitVec 128} {p : BitVec 256} (h : TSt w0 a A B p w) : TSt w0 a A B p w.drew := ⟨h.below.drew, h.x, h.y, h.p, h.new⟩
theorem add_bit (x : BitVec 8) (r : Nat) (hr : r < 8) : (n8 x + 128 / 2 ^ r) % 256 = n8 (x + 128#8 >>> r) := by
  rw [n8_nat, n8_nat, BitVec.toNat_add]
  have : (128#8 >>> r).toNat = 128 / 2 ^ r := by rw [BitVec.toNat_ushiftRight, Nat.shiftRight_eq_div_pow]; rfl
  rw [this]
  rcases (by omega : r = 0 ∨ r = 1 ∨ r = 2 ∨ r = 3 ∨ r = 4 ∨ r = 5 ∨ r = 6 ∨ r = 7) with rfl | rfl | rfl | rfl | rfl | rfl | rfl | rfl <;> simp <;> omega
theorem red1_no {q : BitVec 256} {i : Nat} (h : q.getLsbD i = false) : GF.red1 q i = q := by
  unfold GF.red1
  rw [h]
  rfl
theorem red1_yes {q : BitVec 256} {m : Nat} (h : q.getLsbD (m + 128) = true) : GF.red1 q (m + 128) = q ^^^ 1#256 <<< m ^^^ 1#256 <<< (m + 1) ^^^ 1#256 <<< (m + 2) ^^^ 1#256 <<< (m + 7) := by
  unfold GF.red1
  rw [if_pos h, show m + 128 - 128 = m by omega, show m + 128 - 127 = m + 1 by omega, show m + 128 - 126 = m + 2 by omega, show m + 128 - 121 = m + 7 by omega]
set_option maxHeartbeats 8000000 in
theorem timesR2_any (f g : Nat → BitVec 8) (w : World) :
    Calls Tryd.prog 85 #[.string (strOf f 16), .string (strOf g 16)] w fun e w' => e = .returned (.string (strOf (W2.byte (W2.mul (W2.of f) (W2.of g))) 16)) ∧ Below w.heap.size w w' := by
  have BF := fun w => bits_any f w
  have BG := fun w => bits_any g w
  generalize strOf f 16 = S at *
  generalize strOf g 16 = T at *
  have ef : boolArr (bitS f) 128 = boolArr (W2.of f).poly.getLsbD 128 := boolArr_congr _ _ _ (fun i hi => (of_bit f i hi).symm)
  have eg : boolArr (bitS g) 128 = boolArr (W2.of g).poly.getLsbD 128 := boolArr_congr _ _ _ (fun i hi => (of_bit g i hi).symm)
  have em : (W2.mul (W2.of f) (W2.of g)).poly = GF.mulV (W2.of f).poly (W2.of g).poly := mul_poly _ _
  generalize W2.mul (W2.of f) (W2.of g) = M at *
  generalize (W2.of f).poly = A at *
  generalize (W2.of g).poly = B at *
  rw [ef] at BF
  rw [eg] at BG
  clear ef eg
  have EM := Lib.hid em
  have BFH := Lib.hid BF
  have BGH := Lib.hid BG
  clear em BF BG
  go_enter Tryd.func85, Tryd.ntmps85
  go_wp2_with fail
  refine (BFH.out w).mono ?_
  rintro e w1 ⟨rfl, hb1⟩
  go_wp2_with fail
  refine (BGH.out w1).mono ?_
  rintro e w2 ⟨rfl, hb2⟩
  have hb := hb1.trans (hb2.mono hb1.size)
  clear hb1 hb2 BFH BGH
  have ZA : ∀ f : Nat → Bool, (boolArr (fun _ => false) 128).size = (boolArr f 128).size := fun f => by rw [boolArr_size, boolArr_size]
  go_wp2_with (first
    | (refine wpList_alloc_row (o := ⟨some 5, .alloc 151, _, _, _, _⟩) rfl 151 rfl (boolArr (fun _ => false) 128) zero_bools ?_)
    | (refine wpList_alloc_row (o := ⟨some 6, .alloc 151, _, _, _, _⟩) rfl 151 rfl (boolArr (fun _ => false) 128) zero_bools ?_
       have r5 : ((w2.alloc (.cells (boolArr (fun _ => false) 128) 151)).alloc (.cells (boolArr (fun _ => false) 128) 151)).heap[w2.heap.size]? = some (.cells (boolArr (fun _ => false) 128) 151 (0, 0)) := rows_alloc w2 [_, _] 0
       have r6 : ((w2.alloc (.cells (boolArr (fun _ => false) 128) 151)).alloc (.cells (boolArr (fun _ => false) 128) 151)).heap[w2.heap.size + 1]? = some (.cells (boolArr (fun _ => false) 128) 151 (0, 0)) := rows_alloc w2 [_, _] 1
       have hb3 : Below w2.heap.size w2 ((w2.alloc (.cells (boolArr (fun _ => false) 128) 151)).alloc (.cells (boolArr (fun _ => false) 128) 151)) := ((Below.refl _ w2).alloc (Nat.le_refl _) _).alloc (by simp) _
       have hs3 : ((w2.alloc (.cells (boolArr (fun _ => false) 128) 151)).alloc (.cells (boolArr (fun _ => false) 128) 151)).heap.size = w2.heap.size + 2 := by simp
       try rw [show (w2.alloc (.cells (boolArr (fun _ => false) 128) 151)).heap.size = w2.heap.size + 1 by simp]
       generalize World.alloc _ _ = w3 at *)
    | (refine wpList_store_row (op := ⟨none, .store 151 (.tmp 5) (.tmp 14), _, _, _, _⟩) rfl 151 _ _ rfl w2.heap.size 151 _ (boolArr A.getLsbD 128) rfl rfl r5 (ZA _) (size_boolArr _) (boolArr_one _ _) ?_
       intro w4 rs4
       have r6' := rs4.keep (show w2.heap.size + 1 ≠ w2.heap.size by omega) r6)
    | (refine wpList_store_row (op := ⟨none, .store 151 (.tmp 6) (.tmp 16), _, _, _, _⟩) rfl 151 _ _ rfl (w2.heap.size + 1) 151 _ (boolArr B.getLsbD 128) rfl rfl r6' (ZA _) (size_boolArr _) (boolArr_one _ _) ?_
       intro w5 rs5
       have r5' := rs5.keep (show w2.heap.size ≠ w2.heap.size + 1 by omega) rs4.row
       have r6'' := rs5.row
       have hs5 : w5.heap.size = w2.heap.size + 2 := by rw [rs5.size, rs4.size, hs3]
       have hb5 := (hb3.trans (rs4.below _ (Nat.le_refl _))).trans (rs5.below w2.heap.size (by omega))
       clear rs4 rs5 r5 r6 r6' hb3 hs3)
    | (refine wpList_alloc_row (o := ⟨some 7, .alloc 153, _, _, _, _⟩) rfl 153 rfl (boolArr (fun _ => false) 256) zero_bools2 ?_
       rw [hs5])
    | fail)
  have r7 : (w5.alloc (.cells (boolArr (fun _ => false) 256) 153)).heap[w2.heap.size + 2]? = some (.cells (boolArr (fun _ => false) 256) 153 (0, 0)) := by rw [← hs5]; exact heap_alloc_last _ _
  have st : TSt w w2.heap.size A B 0#256 (w5.alloc (.cells (boolArr (fun _ => false) 256) 153)) :=
    ⟨(hb.trans (hb5.mono hb.size)).alloc (by have := hb.size; omega) _,
     by rw [((Below.refl _ w5).alloc (Nat.le_refl _) _).block _ (by omega)]; exact r5',
     by rw [((Below.refl _ w5).alloc (Nat.le_refl _) _).block _ (by omega)]; exact r6'',
     by rw [boolArr_none]; exact r7, hb.size⟩
  clear r5' r6'' r7 hs5 hb5 hb ZA
  generalize World.alloc _ _ = wa at *
  generalize w2.heap.size = a at *
  go_loopw [8] (fun s8 wr => ∃ i : Nat, i ≤ 128 ∧ s8 = .int .i64 (i : Int) ∧ TSt w a A B (GF.rowsV A B i) wr) (fun s8 _ => 128 - (intOf s8).toNat)
  case atStart => exact ⟨0, by omega, rfl, st⟩
  case round =>
    clear st
    obtain ⟨i, hi, rfl, st⟩ := hrel
    have ST := Lib.hid st
    by_cases hi128 : i < 128
    · have hiI : (i : Int) < 128 := by omega
      have xi := st.xat i hi128
      have hrows : GF.rowsV A B (i + 1) = GF.rowsV A B i ^^^ (if A.getLsbD i then GF.rowV B i 128 else 0#256) := rfl
      have HR := Lib.hid hrows
      clear hrows
      generalize GF.rowsV A B i = R at *
      clear st
      generalize hA : A.getLsbD i = b at *
      have HA := Lib.hid hA
      clear hA
      cases b with
      | false =>
        go_wp2_with fail
        go_loopw [9] (fun s9 wq => s9 = .int .i64 0 ∧ wq = wr) (fun _ _ => 0)
        case atStart => exact ⟨rfl, rfl⟩
        case round =>
          obtain ⟨rfl, rfl⟩ := hrel
          go_wp2_with fail
          go_roundw
          case rel => exact ⟨i + 1, by omega, by go_num, by rw [HR.out]; simpa using ST.out⟩
          case measure => simp [intOf]; omega
      | true =>
        go_wp2_with fail
        go_loopw [9] (fun s9 wq => ∃ k : Nat, k ≤ 128 ∧ s9 = .int .i64 (k : Int) ∧ TSt w a A B (R ^^^ GF.rowV B i k) wq) (fun s9 _ => 128 - (intOf s9).toNat)
        case atStart => exact ⟨0, by omega, rfl, by simpa [GF.rowV, GF.sumN] using ST.out⟩
        case round =>
          clear xi
          obtain ⟨k, hk, rfl, st⟩ := hrel
          have xi := st.xat i hi128
          rw [HA.out] at xi
          by_cases hk128 : k < 128
          · have hkI : (k : Int) < 128 := by omega
            have yk := st.yat k hk128
            have pk := st.pat (i + k) (by omega)
            have zk := st.free (i + k)
            have hrow : GF.rowV B i (k + 1) = GF.rowV B i k ^^^ (if B.getLsbD k then 1#256 <<< (i + k) else 0#256) := rfl
            have HW := Lib.hid hrow
            have S2 := Lib.hid st
            clear hrow st
            have n1 : ((i : Int) + (k : Int)).toNat = i + k := by omega
            have n2 : (i : Int) + (k : Int) < 256 := by omega
            generalize GF.rowV B i k = V at *
            generalize B.getLsbD k = c at *
            generalize hG : R ^^^ V = G at *
            have HG := Lib.hid hG
            clear hG
            cases c with
            | false =>
              go_wp2_with fail
              go_roundw
              case rel => exact ⟨k + 1, by omega, by go_num, by rw [HW.out]; simpa [HG.out] using S2.out⟩
              case measure => simp [intOf]; omega
            | true =>
              go_wp2_with fail
              go_roundw
              case rel => exact ⟨k + 1, by omega, by go_num, by
                rw [HW.out, if_pos rfl, ← BitVec.xor_assoc, HG.out]
                exact S2.out.tog (i + k) (by omega)⟩
              case measure => simp [intOf]; omega
          · obtain rfl : k = 128 := by omega
            go_wp2_with fail
            go_roundw
            case rel => exact ⟨i + 1, by omega, by go_num, by rw [HR.out]; simpa using st⟩
            case measure => simp [intOf]; omega
    · obtain rfl : i = 128 := by omega
      clear hi128 hi
      have er := GF.red_rows A B
      rw [← EM.out] at er
      have ER := Lib.hid er
      clear er EM ST
      generalize GF.rowsV A B 128 = R at *
      go_wp2_with fail
      go_loopw [10] (fun s10 wq => ∃ m : Nat, m ≤ 128 ∧ s10 = .int .i64 ((m + 127 : Nat) : Int) ∧ TSt w a A B (GF.redN R (128 - m)) wq) (fun s10 _ => (intOf s10).toNat)
      case atStart => exact ⟨128, by omega, rfl, st⟩
      case round =>
        clear st
        obtain ⟨m, hm, rfl, st⟩ := hrel
        rcases Nat.eq_zero_or_pos m with rfl | hm0
        · rw [Nat.zero_add]
          have hq : ∀ i, i < 128 → (GF.redN R (128 - 0)).getLsbD i = M.poly.getLsbD i := fun i hi => by rw [← ER.out]; exact red_bit R i hi
          generalize GF.redN R (128 - 0) = q at *
          have HQ := Lib.hid (fun j hj => out_byte M q.getLsbD hq j hj)
          have hge : ¬ (128 : Int) ≤ ((127 : Nat) : Int) := by omega
          have hge2 : ((127 : Nat) : Int) < 128 := by omega
          have SQ := Lib.hid st
          have mk := run_make16
          have or0 : (wr.alloc (.cells (bytesArr (outB q.getLsbD 0) 16) 5)).heap[wr.heap.size]? = some (.cells (bytesArr (outB q.getLsbD 0) 16) 5 (0, 0)) := heap_alloc_last _ _
          have OR := Lib.hid or0
          have hlt2 := lt_of_heap st.p
          clear hq st ER or0
          go_wp2_with fail
          rw [show bytesArr (fun _ => 0#8) 16 = bytesArr (outB q.getLsbD 0) 16 from rfl]
          have hob : w.heap.size ≤ wr.heap.size := SQ.out.below.size
          generalize wr.heap.size = o at *
          go_loopw [12] (fun s12 wx => ∃ i : Nat, i ≤ 128 ∧ s12 = .int .i64 (i : Int) ∧ wx.heap[o]? = some (.cells (bytesArr (outB q.getLsbD i) 16) 5 (0, 0)) ∧ TSt w a A B q wx) (fun s12 _ => 128 - (intOf s12).toNat)
          case atStart => exact ⟨0, by omega, rfl, OR.out, ⟨SQ.out.below.alloc SQ.out.below.size _, by rw [((Below.refl _ wr).alloc (Nat.le_refl _) _).block _ (lt_of_heap SQ.out.x)]; exact SQ.out.x, by rw [((Below.refl _ wr).alloc (Nat.le_refl _) _).block _ (lt_of_heap SQ.out.y)]; exact SQ.out.y, by rw [((Below.refl _ wr).alloc (Nat.le_refl _) _).block _ (lt_of_heap SQ.out.p)]; exact SQ.out.p, SQ.out.new⟩⟩
          case round =>
            clear OR mk SQ
            obtain ⟨i, hi, rfl, ro, st⟩ := hrel
            by_cases hi128 : i < 128
            · have hiI : (i : Int) < 128 := by omega
              have pi := st.pat i (by omega)
              have ob : outB q.getLsbD (i + 1) = if q.getLsbD i then updb (outB q.getLsbD i) (i / 8) (outB q.getLsbD i (i / 8) + 128#8 >>> (i % 8)) else outB q.getLsbD i := rfl
              have OB := Lib.hid ob
              clear ob
              generalize outB q.getLsbD i = u at *
              generalize q.getLsbD i = c at *
              have SS := Lib.hid st
              cases c with
              | false =>
                go_wp2_with fail
                go_roundw
                case rel => exact ⟨i + 1, by omega, by go_num, by rw [OB.out]; simpa using ro, st⟩
                case measure => simp [intOf]; omega
              | true =>
                clear st
                obtain ⟨d, r, hd, hr, hd16, hr8⟩ : ∃ d r, d = i / 8 ∧ r = i % 8 ∧ d < 16 ∧ r < 8 := ⟨i / 8, i % 8, rfl, rfl, by omega, by omega⟩
                have e1 : (i : Int).tdiv 8 = (d : Int) := by rw [Int.tdiv_eq_ediv_of_nonneg (by omega)]; omega
                have e2 : (i : Int).tmod 8 = (r : Int) := by rw [Int.tmod_eq_emod_of_nonneg (by omega)]; omega
                rw [← hd, ← hr] at OB
                clear hd hr
                go_upto_region 24 with (fail)
                have c1 : wr.cell? ⟨o, d, none⟩ = some (.int .u8 (n8 (u d))) := by rw [cell_of_row _ _ _ _ _ _ ro]; exact bytesArr_get _ _ _ hd16
                have c2 : wr.drew.cell? ⟨o, d, none⟩ = some (.int .u8 (n8 (u d))) := c1
                have z1 : wr.frozen? ⟨o, d, none⟩ = false := frozen_of_row _ _ _ _ _ ro
                have z2 : wr.drew.frozen? ⟨o, d, none⟩ = false := z1
                go_region
                all_goals (
                  have ro2 : ((wr.setCell ⟨o, d, none⟩ (.int .u8 ((n8 (u d) + 128 / 2 ^ r) % 256))).drew).heap[o]? = some (.cells (bytesArr (updb u d (u d + 128#8 >>> r)) 16) 5 (0, 0)) := by
                    show (wr.setCell _ _).heap[o]? = _
                    rw [heap_setCell_same _ _ _ _ _ _ ro, add_bit _ _ hr8, bytesArr_set]
                  have st2 := (SS.out.other (j := d) hlt2 (.int .u8 ((n8 (u d) + 128 / 2 ^ r) % 256))).drew
                  clear ro c1 c2 z1 z2 SS
                  generalize World.drew _ = wz at *
                  go_wp2_with fail
                  go_roundw
                  case rel => exact ⟨i + 1, by omega, by go_num, by rw [OB.out]; simpa using ro2, st2⟩
                  case measure => simp [intOf]; omega)
            · obtain rfl : i = 128 := by omega
              rw [bytesArr_congr _ _ 16 HQ.out] at ro
              have cv := conv_str M.byte o 0 16 16 wr (fun i hi => by rw [cell_of_row _ _ _ _ _ _ ro, Nat.zero_add]; exact bytesArr_get _ _ _ hi)
              have hbl := st.below
              clear st
              go_wp2_with fail
              go_ret
              exact ⟨rfl, hbl⟩
        · obtain ⟨n, rfl⟩ : ∃ n, m = n + 1 := ⟨m - 1, by omega⟩
          have hN : GF.redN R (128 - n) = GF.red1 (GF.redN R (128 - (n + 1))) (n + 128) := by
            rw [show 128 - n = 128 - (n + 1) + 1 by omega, GF.redN, show 255 - (128 - (n + 1)) = n + 128 by omega]
          have HN := Lib.hid hN
          clear hN
          generalize GF.redN R (128 - (n + 1)) = q at *
          rw [show n + 1 + 127 = n + 128 by omega]
          have hge : ¬ ((n + 128 : Nat) : Int) < 128 := by omega
          have hge2 : (128 : Int) ≤ ((n + 128 : Nat) : Int) := by omega
          have hlt : ((n + 128 : Nat) : Int) < 256 := by omega
          have pm := st.pat (n + 128) (by omega)
          have e0 : ((n + 128 : Nat) : Int) - 1 = ((n + 127 : Nat) : Int) := by omega
          have e1 : ((n + 128 : Nat) : Int) - 128 = (n : Int) := by omega
          have e2 : ((n + 128 : Nat) : Int) - 127 = ((n + 1 : Nat) : Int) := by omega
          have e3 : ((n + 128 : Nat) : Int) - 126 = ((n + 2 : Nat) : Int) := by omega
          have e4 : ((n + 128 : Nat) : Int) - 121 = ((n + 7 : Nat) : Int) := by omega
          have SQ := Lib.hid st
          clear st
          cases hb : q.getLsbD (n + 128) with
          | false =>
            rw [hb] at pm
            go_wp2_with fail
            go_roundw
            case rel => exact ⟨n, by omega, by go_num, by rw [HN.out, red1_no hb]; exact SQ.out⟩
            case measure => simp [intOf]; omega
          | true =>
            rw [hb] at pm
            go_upto_region 15 with (fail)
            have sq := SQ.out
            have p0 := sq.pat (n) (by omega)
            have z0 := sq.free (n)
            have t0 : ((n : Nat) : Int).toNat = n := by omega
            go_upto_region 16 with (fail)
            have s0 := sq.tog (n) (by omega)
            generalize World.setCell _ _ _ = wx0 at *
            generalize hq0 : _ ^^^ 1#256 <<< (n) = q0 at s0
            have HQ0 := Lib.hid hq0
            clear p0 z0 t0 hq0 sq
            have p1 := s0.pat (n + 1) (by omega)
            have z1 := s0.free (n + 1)
            have t1 : ((n + 1 : Nat) : Int).toNat = n + 1 := by omega
            go_upto_region 17 with (fail)
            have s1 := s0.tog (n + 1) (by omega)
            generalize World.setCell _ _ _ = wx1 at *
            generalize hq1 : _ ^^^ 1#256 <<< (n + 1) = q1 at s1
            have HQ1 := Lib.hid hq1
            clear p1 z1 t1 hq1 s0
            have p2 := s1.pat (n + 2) (by omega)
            have z2 := s1.free (n + 2)
            have t2 : ((n + 2 : Nat) : Int).toNat = n + 2 := by omega
            go_upto_region 18 with (fail)
            have s2 := s1.tog (n + 2) (by omega)
            generalize World.setCell _ _ _ = wx2 at *
            generalize hq2 : _ ^^^ 1#256 <<< (n + 2) = q2 at s2
            have HQ2 := Lib.hid hq2
            clear p2 z2 t2 hq2 s1
            have p3 := s2.pat (n + 7) (by omega)
            have z3 := s2.free (n + 7)
            have t3 : ((n + 7 : Nat) : Int).toNat = n + 7 := by omega
            go_wp2_with fail
            go_roundw
            case rel => exact ⟨n, by omega, by go_num, by
              rw [HN.out, red1_yes hb, HQ0.out, HQ1.out, HQ2.out]
              exact s2.tog (n + 7) (by omega)⟩
            case measure => simp [intOf]; omega
end Go.Proofs.YtjbpjoondmcnlabDoor
namespace Go.Proofs.YtjbpjoondmcnlabDoor
open Go Go.RowKit Go.BigFrame
set_option maxRecDepth 100000
set_option linter.unusedSimpArgs false
theorem w2_of_byte (x : W2) : W2.of x.byte = x := by
  apply poly_inj
  apply BitVec.eq_of_getLsbD_eq
  intro i hi
  rw [of_bit _ i hi]
  unfold bitS
  rw [byte_bit _ _ _ (by omega) (by omega)]
  congr 1
  omega
theorem of_xor (f g : Nat → BitVec 8) : W2.of (fun i => f i ^^^ g i) = W2.xor (W2.of f) (W2.of g) := by
  apply poly_inj
  apply BitVec.eq_of_getLsbD_eq
  intro i hi
  rw [of_bit _ i hi, poly_xor, BitVec.getLsbD_xor, of_bit _ i hi, of_bit _ i hi]
  unfold bitS
  rw [BitVec.getLsbD_xor]
theorem byte_xor (x y : W2) (i : Nat) (hi : i < 16) : (W2.xor x y).byte i = x.byte i ^^^ y.byte i := by
  apply BitVec.eq_of_getLsbD_eq
  intro c hc
  rw [BitVec.getLsbD_xor, byte_bit _ _ _ hi hc, byte_bit _ _ _ hi hc, byte_bit _ _ _ hi hc, poly_xor, BitVec.getLsbD_xor]
theorem size_push2 (w : World) (a b : Obj) : ((w.alloc a).alloc b).heap.size = w.heap.size + 2 := by simp
theorem eq16_same (p : Nat → BitVec 8) (w : World) : (Op.equalIn 10000 93 (.agg (b16 p)) (.agg (b16 p))).run Tryd.prog w = .ok true w := by
  have h : (Op.equalIn 10000 93 (.agg (b16 p)) (.agg (b16 p))).run Tryd.prog w = .ok (allEq p p 16) w :=
    run_eq_bytes (P := Tryd.prog) (t := 93) (e := 5) (n := 16) p p w (by kernel_rfl) (by kernel_rfl) (by kernel_rfl) (by kernel_rfl) (by kernel_rfl)
  rw [h, (allEq_iff p p 16).2 (fun _ _ => rfl)]
theorem load_b16 {w : World} {k : Nat} {f : Nat → BitVec 8} (h : w.heap[k]? = some (.cells (b16 f) 93 (0, 0))) : (Instr.loadAt 93 (.pointer (some ⟨k, 0, none⟩))).run Tryd.prog w = .ok (.agg (b16 f)) w :=
  load16_any f k 0 w (fun i hi => by rw [Nat.zero_add, cell_of_row _ _ _ _ _ _ h]; exact b16_get f i hi)
theorem quiet_value {P : Program} {C : World → Prop} {o : Oper} {a : Act} {w : World} {v : Value} (h : (execOp a.eval o).run P w = .ok (.value v) w) : o.quietAt P a C w v := by
  unfold Oper.quietAt
  rw [h]
  exact ⟨rfl, rfl⟩
end Go.Proofs.YtjbpjoondmcnlabDoor
