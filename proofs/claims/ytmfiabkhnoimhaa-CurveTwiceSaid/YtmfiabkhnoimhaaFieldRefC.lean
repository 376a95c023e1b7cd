/-
  THE DOCUMENT'S ANSWER FOR field, THIRD PART: below.
-/
import Derived.Test.YtmfiabkhnoimhaaFieldRefB
namespace Go.Proofs.Ytmfiabkhnoimhaa
open Go Go.RowKit Go.BigFrame
def lessTo (D : Nat → Int) (i j : Nat) : Int := if j < i then RefF.less D RefF.pD j else D j
theorem lessTo_zero (D d : Nat → Int) (M : Nat) : dC (mix (lessTo D 0) d) M = dC (mix D d) M := dC_congr _ _ _ (fun i _ => by unfold mix lessTo; simp)
theorem lessTo_all (D d : Nat → Int) (M : Nat) : dC (mix (lessTo D 32) d) M = dC (mix (RefF.less D RefF.pD) d) M := dC_congr _ _ _ (fun i _ => by
  unfold mix lessTo
  by_cases h : i < 32
  · simp [h]
  · simp [h])
theorem lessTo_set (D d : Nat → Int) (i M : Nat) (hi : i < 32) (x : Int) (hx : RefF.less D RefF.pD i = x) : dC (fun j => if j = i then x else mix (lessTo D i) d j) M = dC (mix (lessTo D (i + 1)) d) M := by
  refine mix_set (lessTo D i) d (lessTo D (i + 1)) i x M hi (fun j hj => ?_)
  unfold lessTo
  by_cases h : j = i
  · rw [if_pos h, if_pos (by omega), h, hx]
  · rw [if_neg h]
    by_cases h2 : j < i
    · rw [if_pos h2, if_pos (by omega)]
    · rw [if_neg h2, if_neg (by omega)]
def byteD (D : Nat → Int) (i : Nat) : BitVec 8 := BitVec.ofInt 8 (D i)
def byteTo (D : Nat → Int) (i j : Nat) : BitVec 8 := if j < i then byteD D j else 0#8
theorem make32 (w : World) : (Instr.makeSlice 25 (.int .i64 32) (.int .i64 32)).run Try.prog w = .ok (.slice (some ⟨w.heap.size, 0, none⟩) 32 32) (w.alloc (.cells (Array.replicate 32 (.int .u8 0)) 5)) := by kernel_rfl
theorem numS_digits (D : Nat → Int) (hd : ∀ i, 0 ≤ D i ∧ D i ≤ 255) (m : Nat) (hm : RefF.sumD D 32 = (m : Int)) : strOf (byteD D) 32 = numS m := by
  refine str_same (fun i hi => ?_)
  unfold byteD
  rw [RefF.digit_nat D hd m hm i hi]
  apply BitVec.eq_of_toNat_eq
  rw [BitVec.ofInt_natCast, BitVec.toNat_ofNat, BitVec.toNat_ofNat]
  omega
set_option maxHeartbeats 4000000 in
set_option maxRecDepth 100000 in
theorem below_any (d : Nat → Int) (b c M : Nat) (w : World) (hM : 32 ≤ M) (hrow : w.heap[b]? = some (.cells (dC d M) 3 (0, 0))) (hd : ∀ i, -1099511627776 ≤ d i ∧ d i ≤ 1099511627776) (n : Nat) (hn : RefF.sumD d 32 = (n : Int)) (h290 : n < 2 ^ 290) :
    Calls Try.prog 37 #[.slice (some ⟨b, 0, none⟩) 32 c] w fun e w' => e = .returned (.string (numS (n % E5.p))) ∧ Below b w w' := by
  obtain ⟨N, hN1, hN2, hat0⟩ := RefF.carry_at d n hn h290
  have HD := Lib.hid hd
  have HN := Lib.hid hn
  clear hd hn h290
  have mk := make32
  go_enter Try.func37, Try.ntmps37
  go_wp2_with fail
  refine (carry_any d b c M w hM hrow HD.out).mono ?_
  rintro e w1 ⟨rfl, hb1, r1, -⟩
  go_wp2_with fail
  refine (prime_any w1).mono ?_
  rintro e w2 ⟨rfl, hb2, r2⟩
  have l1 : b < w1.heap.size := lt_of_heap r1
  have l2 : w1.heap.size < w2.heap.size := lt_of_heap r2
  have hb : Below b w w2 := hb1.trans (hb2.mono (Nat.le_of_lt l1))
  have rb : w2.heap[b]? = some (.cells (dC (mix (RefF.rnds 6 d) d) M) 3 (0, 0)) := (hb2.block b l1).trans r1
  generalize RefF.rnds 6 d = D0 at *
  generalize w1.heap.size = P at *
  have hPb : P ≠ b := by omega
  clear hb1 hb2 r1 hrow w1 HD HN
  go_wp2_with fail
  go_loopw [4] (fun s wr => ∃ k : Nat, k ≤ 3 ∧ s = .int .i64 (k : Int) ∧ ∃ D, RefF.At N k D ∧ wr.heap[b]? = some (.cells (dC (mix D d) M) 3 (0, 0)) ∧ wr.heap[P]? = some (.cells (dC RefF.pD 32) 3 (0, 0)) ∧ Below b w wr) (fun s _ => 3 - (intOf s).toNat)
  case atStart => exact ⟨0, by omega, rfl, D0, hat0, rb, r2, hb⟩
  case round =>
    obtain ⟨k, hk, rfl, D, hat, qb, qp, bel⟩ := hrel
    have AT := Lib.hid hat
    clear rb r2 hb hat hat0
    by_cases hlt : k < 3
    · obtain ⟨wo, rfl⟩ : ∃ wo : World, wo = wr := ⟨_, rfl⟩
      go_wp2_with fail
      go_loopw [5, 6] (fun s5 s6 wq => ∃ i : Nat, i ≤ 32 ∧ s6 = .int .i64 ((i : Int) - 1) ∧ s5 = .bool false ∧ (∀ j, i ≤ j → j < 32 → D j = RefF.pD j) ∧ wq.heap[b]? = some (.cells (dC (mix D d) M) 3 (0, 0)) ∧ wq.heap[P]? = some (.cells (dC RefF.pD 32) 3 (0, 0)) ∧ Below b w wq) (fun _ s6 _ => (intOf s6 + 1).toNat)
      case atStart => exact ⟨32, by omega, rfl, rfl, fun j h1 h2 => by omega, qb, qp, bel⟩
      case round =>
        clear qb qp bel
        obtain ⟨i, hi, h6, rfl, heq, qb, qp, bel⟩ := hrel
        have HE := Lib.hid heq
        clear heq
        rcases Nat.eq_zero_or_pos i with h0 | h0
        · subst h0
          have h6' : _ = Value.int .i64 (-1) := h6
          subst h6'
          have GE := Lib.hid (RefF.cmp_eq D (fun j hj => HE.out j (by omega) hj))
          clear HE h6
          go_wp2_with fail
          skip
          obtain ⟨wo2, rfl⟩ : ∃ wo2 : World, wo2 = wr := ⟨_, rfl⟩
          go_loopw [7, 8] (fun s7 s8 wq => ∃ i : Nat, i ≤ 32 ∧ s8 = .int .i64 (i : Int) ∧ s7 = .int .i64 (RefF.bw D RefF.pD i) ∧ wq.heap[b]? = some (.cells (dC (mix (lessTo D i) d) M) 3 (0, 0)) ∧ wq.heap[P]? = some (.cells (dC RefF.pD 32) 3 (0, 0)) ∧ Below b w wq) (fun _ s8 _ => 32 - (intOf s8).toNat)
          case atStart => exact ⟨0, by omega, rfl, rfl, by rw [lessTo_zero]; exact qb, qp, by first | exact bel | exact bel.drew | exact below_drewN bel _ | exact bel.drew.drew | exact (below_drewN (below_drewN bel _) _)⟩
          case round =>
            clear qb qp bel
            obtain ⟨i, hi, rfl, rfl, qb, qp, bel⟩ := hrel
            by_cases hl3 : i < 32
            · have d0 := AT.out.range i
              have p0 := RefF.pD_range i
              have o0 := RefF.bw_range D RefF.pD i
              have kb : wr.cell? ⟨b, i, none⟩ = some (.int .i64 (D i)) := by rw [cell_of_row _ _ _ _ _ _ qb, dC_get _ M i (by omega), mix_low _ _ _ hl3]; unfold lessTo; rw [if_neg (by omega)]
              have kp : wr.cell? ⟨P, i, none⟩ = some (.int .i64 (RefF.pD i)) := by rw [cell_of_row _ _ _ _ _ _ qp]; exact dC_get _ 32 i hl3
              have kf : wr.frozen? ⟨b, i, none⟩ = false := frozen_of_row _ _ _ _ _ qb
              by_cases ho : D i - RefF.pD i - RefF.bw D RefF.pD i < 0
              · have hb1 : RefF.bw D RefF.pD (i + 1) = 1 := if_pos ho
                have hx : RefF.less D RefF.pD i = D i - RefF.pD i - RefF.bw D RefF.pD i + 256 := by unfold RefF.less; rw [hb1]; omega
                go_wp2_with fail
                go_region
                go_wp2_with fail
                go_roundw
                case rel =>
                  refine ⟨i + 1, by omega, by go_num, by rw [hb1], ?_, ?_, ?_⟩
                  · refine Eq.trans (heap_setCell_same _ b i _ 3 _ (heap_setCell_same _ b i _ 3 _ qb)) ?_
                    rw [dC_set, dC_set, dC_congr _ (fun j => if j = i then D i - RefF.pD i - RefF.bw D RefF.pD i + 256 else mix (lessTo D i) d j) M (fun j _ => by by_cases h : j = i <;> simp [h]), lessTo_set D d i M hl3 _ hx]
                  · refine Eq.trans (heap_setCell_other _ _ _ _ hPb) (Eq.trans (heap_setCell_other _ _ _ _ hPb) qp)
                  · first | exact (Below.setCell (Below.setCell bel (Nat.le_refl _) _) (Nat.le_refl _) _) | exact (Below.setCell (Below.setCell bel (Nat.le_refl _) _) (Nat.le_refl _) _).drew | exact (Below.setCell (Below.drew (Below.setCell bel (Nat.le_refl _) _)) (Nat.le_refl _) _)
                case measure => (simp [intOf] <;> omega)
              · have hb1 : RefF.bw D RefF.pD (i + 1) = 0 := if_neg ho
                have hx : RefF.less D RefF.pD i = D i - RefF.pD i - RefF.bw D RefF.pD i := by unfold RefF.less; rw [hb1]; omega
                go_wp2_with fail
                go_region
                go_wp2_with fail
                go_roundw
                case rel =>
                  refine ⟨i + 1, by omega, by go_num, by rw [hb1], ?_, ?_, ?_⟩
                  · refine Eq.trans (heap_setCell_same _ b i _ 3 _ qb) ?_
                    rw [dC_set, lessTo_set D d i M hl3 _ hx]
                  · exact Eq.trans (heap_setCell_other _ _ _ _ hPb) qp
                  · first | exact (Below.setCell bel (Nat.le_refl _) _) | exact (Below.setCell bel (Nat.le_refl _) _).drew
                case measure => (simp [intOf] <;> omega)
            · obtain rfl : i = 32 := by omega
              go_wp2_with fail
              go_roundw
              case rel =>
                refine ⟨k + 1, by omega, by go_num, RefF.less D RefF.pD, AT.out.less (by have := GE.out; omega), ?_, qp, bel⟩
                rw [qb, lessTo_all]
              case measure => (simp [intOf] <;> omega)
        · obtain ⟨i, rfl⟩ : ∃ j, i = j + 1 := ⟨i - 1, by omega⟩
          rw [show ((i + 1 : Nat) : Int) - 1 = (i : Int) by omega] at h6
          subst h6
          have d0 := AT.out.range i
          have p0 := RefF.pD_range i
          have kb : wr.cell? ⟨b, i, none⟩ = some (.int .i64 (D i)) := by rw [cell_of_row _ _ _ _ _ _ qb, dC_get _ M i (by omega), mix_low _ _ _ (by omega)]
          have kp : wr.cell? ⟨P, i, none⟩ = some (.int .i64 (RefF.pD i)) := by rw [cell_of_row _ _ _ _ _ _ qp]; exact dC_get _ 32 i (by omega)
          by_cases he : D i = RefF.pD i
          · go_wp2_with fail
            go_region
            go_wp2_with fail
            go_roundw
            case rel =>
              refine ⟨i, by omega, rfl, rfl, fun j h1 h2 => ?_, qb, qp, ?_⟩
              · by_cases hj : j = i
                · rw [hj]; exact he
                · exact HE.out j (by omega) h2
              · first | exact bel | exact bel.drew | exact below_drewN bel _
            case measure => (simp [intOf] <;> omega)
          · have HC := Lib.hid (RefF.cmp_lt D AT.out.range i (by omega) (fun j h1 h2 => HE.out j (by omega) h2) he)
            by_cases hl : D i < RefF.pD i
            · go_wp2_with fail
              go_region
              go_wp2_with fail
              go_region
              go_wp2_with fail
              have hlt2 := HC.out.2 hl
              have hm := AT.out.done hlt2 (N % E5.p) rfl
              have HM := Lib.hid (numS_digits D AT.out.range (N % E5.p) hm)
              have HR := Lib.hid AT.out.range
              clear he hl kb kp d0 p0 HC HE hm hlt2 qp
              have r0 : ∀ wz : World, (wz.alloc (.cells (Array.replicate 32 (.int .u8 0)) 5)).heap[wz.heap.size]? = some (.cells (b32 (byteTo D 0)) 5 (0, 0)) := fun wz => by
                rw [heap_alloc_last, ← b32_zero]; exact congrArg (fun c => some (Obj.cells c _ (0, 0))) (b32_congr _ _ (fun i hi => by unfold byteTo; simp))
              generalize hQ : wr.heap.size = Q at *
              have hQb : Q ≠ b := fun h => by have := lt_of_heap qb; omega
              have lQ : b ≤ Q := by have := lt_of_heap qb; omega
              go_loopw [10] (fun s wq => ∃ i : Nat, i ≤ 32 ∧ s = .int .i64 (i : Int) ∧ wq.heap[b]? = some (.cells (dC (mix D d) M) 3 (0, 0)) ∧ wq.heap[Q]? = some (.cells (b32 (byteTo D i)) 5 (0, 0)) ∧ Below b w wq) (fun s _ => 32 - (intOf s).toNat)
              case atStart =>
                refine ⟨0, by omega, rfl, ?_, ?_, ?_⟩
                · refine Eq.trans ?_ qb
                  show (wr.heap.push _)[b]? = wr.heap[b]?
                  rw [Array.getElem?_push, if_neg (by omega)]
                · rw [← hQ]; exact r0 wr
                · exact ((bel.alloc (by omega) _).drew).drew
              case round =>
                clear qb bel
                obtain ⟨i, hi, rfl, qb, qr, bel⟩ := hrel
                by_cases hl3 : i < 32
                · have d0 := HR.out i
                  have kb : wr.cell? ⟨b, i, none⟩ = some (.int .i64 (D i)) := by rw [cell_of_row _ _ _ _ _ _ qb, dC_get _ M i (by omega), mix_low _ _ _ hl3]
                  have kq : wr.cell? ⟨Q, i, none⟩ = some (.int .u8 (n8 (byteTo D i i))) := by rw [cell_of_row _ _ _ _ _ _ qr]; exact b32_get _ i hl3
                  have kf : wr.frozen? ⟨Q, i, none⟩ = false := frozen_of_row _ _ _ _ _ qr
                  have w8 : IntKind.u8.wrap (D i) = n8 (byteD D i) := wrap_n8 _
                  go_wp2_with fail
                  go_roundw
                  case rel =>
                    refine ⟨i + 1, by omega, by go_num, ?_, ?_, ?_⟩
                    · exact Eq.trans (heap_setCell_other _ _ _ _ hQb.symm) qb
                    · refine Eq.trans (heap_setCell_same _ Q i _ 5 _ qr) ?_
                      rw [b32_set]
                      exact congrArg (fun c => some (Obj.cells c _ (0, 0))) (b32_congr _ _ (fun j hj => by
                        unfold byteTo
                        by_cases h : j = i
                        · rw [if_pos h, if_pos (by omega), h]
                        · rw [if_neg h]
                          by_cases h2 : j < i
                          · rw [if_pos h2, if_pos (by omega)]
                          · rw [if_neg h2, if_neg (by omega)]))
                    · first | exact (Below.setCell bel lQ _) | exact (Below.setCell bel lQ _).drew
                  case measure => (simp [intOf] <;> omega)
                · obtain rfl : i = 32 := by omega
                  have hcv := conv_str (byteTo D 32) Q 0 32 32 wr (fun i hi => by rw [cell_of_row _ _ _ _ _ _ qr, Nat.zero_add]; exact b32_get _ i hi)
                  go_wp2_with fail
                  go_ret
                  refine ⟨?_, bel⟩
                  rw [show strOf (byteTo D 32) 32 = strOf (byteD D) 32 from str_same (fun i hi => by unfold byteTo; rw [if_pos hi]), HM.out]
                  exact congrArg (fun n => Ending.returned (.string (numS n))) hN2
            · have GE := Lib.hid (fun h => hl (HC.out.1 h))
              clear HE HC
              have hbn : (D i != RefF.pD i) = true := by simp [he]
              have hdl : decide (D i < RefF.pD i) = false := decide_eq_false hl
              go_wp2_with fail
              go_region
              go_wp2_with fail
              go_region
              go_wp2_with fail
              clear he hl kb kp d0 p0 hbn hdl
              obtain ⟨wo2, rfl⟩ : ∃ wo2 : World, wo2 = wr := ⟨_, rfl⟩
              go_loopw [7, 8] (fun s7 s8 wq => ∃ i : Nat, i ≤ 32 ∧ s8 = .int .i64 (i : Int) ∧ s7 = .int .i64 (RefF.bw D RefF.pD i) ∧ wq.heap[b]? = some (.cells (dC (mix (lessTo D i) d) M) 3 (0, 0)) ∧ wq.heap[P]? = some (.cells (dC RefF.pD 32) 3 (0, 0)) ∧ Below b w wq) (fun _ s8 _ => 32 - (intOf s8).toNat)
              case atStart => exact ⟨0, by omega, rfl, rfl, by rw [lessTo_zero]; exact qb, qp, by first | exact bel | exact bel.drew | exact below_drewN bel _ | exact bel.drew.drew | exact (below_drewN (below_drewN bel _) _)⟩
              case round =>
                clear qb qp bel
                obtain ⟨i, hi, rfl, rfl, qb, qp, bel⟩ := hrel
                by_cases hl3 : i < 32
                · have d0 := AT.out.range i
                  have p0 := RefF.pD_range i
                  have o0 := RefF.bw_range D RefF.pD i
                  have kb : wr.cell? ⟨b, i, none⟩ = some (.int .i64 (D i)) := by rw [cell_of_row _ _ _ _ _ _ qb, dC_get _ M i (by omega), mix_low _ _ _ hl3]; unfold lessTo; rw [if_neg (by omega)]
                  have kp : wr.cell? ⟨P, i, none⟩ = some (.int .i64 (RefF.pD i)) := by rw [cell_of_row _ _ _ _ _ _ qp]; exact dC_get _ 32 i hl3
                  have kf : wr.frozen? ⟨b, i, none⟩ = false := frozen_of_row _ _ _ _ _ qb
                  by_cases ho : D i - RefF.pD i - RefF.bw D RefF.pD i < 0
                  · have hb1 : RefF.bw D RefF.pD (i + 1) = 1 := if_pos ho
                    have hx : RefF.less D RefF.pD i = D i - RefF.pD i - RefF.bw D RefF.pD i + 256 := by unfold RefF.less; rw [hb1]; omega
                    go_wp2_with fail
                    go_region
                    go_wp2_with fail
                    go_roundw
                    case rel =>
                      refine ⟨i + 1, by omega, by go_num, by rw [hb1], ?_, ?_, ?_⟩
                      · refine Eq.trans (heap_setCell_same _ b i _ 3 _ (heap_setCell_same _ b i _ 3 _ qb)) ?_
                        rw [dC_set, dC_set, dC_congr _ (fun j => if j = i then D i - RefF.pD i - RefF.bw D RefF.pD i + 256 else mix (lessTo D i) d j) M (fun j _ => by by_cases h : j = i <;> simp [h]), lessTo_set D d i M hl3 _ hx]
                      · refine Eq.trans (heap_setCell_other _ _ _ _ hPb) (Eq.trans (heap_setCell_other _ _ _ _ hPb) qp)
                      · first | exact (Below.setCell (Below.setCell bel (Nat.le_refl _) _) (Nat.le_refl _) _) | exact (Below.setCell (Below.setCell bel (Nat.le_refl _) _) (Nat.le_refl _) _).drew | exact (Below.setCell (Below.drew (Below.setCell bel (Nat.le_refl _) _)) (Nat.le_refl _) _)
                    case measure => (simp [intOf] <;> omega)
                  · have hb1 : RefF.bw D RefF.pD (i + 1) = 0 := if_neg ho
                    have hx : RefF.less D RefF.pD i = D i - RefF.pD i - RefF.bw D RefF.pD i := by unfold RefF.less; rw [hb1]; omega
                    go_wp2_with fail
                    go_region
                    go_wp2_with fail
                    go_roundw
                    case rel =>
                      refine ⟨i + 1, by omega, by go_num, by rw [hb1], ?_, ?_, ?_⟩
                      · refine Eq.trans (heap_setCell_same _ b i _ 3 _ qb) ?_
                        rw [dC_set, lessTo_set D d i M hl3 _ hx]
                      · exact Eq.trans (heap_setCell_other _ _ _ _ hPb) qp
                      · first | exact (Below.setCell bel (Nat.le_refl _) _) | exact (Below.setCell bel (Nat.le_refl _) _).drew
                    case measure => (simp [intOf] <;> omega)
                · obtain rfl : i = 32 := by omega
                  go_wp2_with fail
                  go_roundw
                  case rel =>
                    refine ⟨k + 1, by omega, by go_num, RefF.less D RefF.pD, AT.out.less (by have := GE.out; omega), ?_, qp, bel⟩
                    rw [qb, lessTo_all]
                  case measure => (simp [intOf] <;> omega)
    · obtain rfl : k = 3 := by omega
      exact absurd AT.out (fun h => h.three hN1)
end Go.Proofs.Ytmfiabkhnoimhaa
