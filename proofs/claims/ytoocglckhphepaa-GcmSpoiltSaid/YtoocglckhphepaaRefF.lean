/-
  THE DOCUMENT'S ANSWER FOR aes, SIXTH PART: a counter and a number, a stream.
-/
import Derived.Test.YtoocglckhphepaaRefE
import Derived.Test.YtoocglckhphepaaAesMath
import Derived.Test.YtoocglckhphepaaAesI
import Derived.Test.YtoocglckhphepaaOwn
import Derived.Test.YtoocglckhphepaaHeld
import Derived.Deep.CutRange
namespace Go.Proofs.Ytoocglckhphepaa
open Go Go.RowKit Go.BigFrame
set_option maxRecDepth 100000
theorem str_cut (f : Nat → BitVec 8) (lo hi len : Nat) (h1 : lo ≤ hi) (h2 : hi ≤ len) : (strOf f len).extract lo hi = strOf (fun i => f (lo + i)) (hi - lo) := by
  apply ByteArray.ext
  rw [ByteArray.data_extract]
  apply Array.ext_getElem?
  intro i
  show ((strL f len).toArray.extract lo hi)[i]? = (strL (fun i => f (lo + i)) (hi - lo)).toArray[i]?
  by_cases h : i < hi - lo
  · simp [strL, h]
    have : lo + i < len := by omega
    simp [this]
  · rw [Array.getElem?_eq_none (by simp [strL]; omega), Array.getElem?_eq_none (by simp [strL]; omega)]
theorem str_join (f g s : Nat → BitVec 8) (k m : Nat) (h1 : ∀ i, i < k → f i = s i) (h2 : ∀ i, i < m → g i = s (k + i)) : strOf f k ++ strOf g m = strOf s (k + m) := by
  apply ByteArray.ext
  rw [ByteArray.data_append]
  apply Array.ext'
  rw [Array.toList_append]
  show strL f k ++ strL g m = strL s (k + m)
  apply List.ext_getElem?
  intro i
  by_cases hi : i < k
  · rw [List.getElem?_append_left (by rw [strL_length]; exact hi)]
    simp [strL, hi, show i < k + m by omega, h1 i hi]
  · rw [List.getElem?_append_right (by rw [strL_length]; omega), strL_length]
    by_cases him : i < k + m
    · simp [strL, show i - k < m by omega, him, h2 (i - k) (by omega), show k + (i - k) = i by omega]
    · rw [List.getElem?_eq_none (by rw [strL_length]; omega), List.getElem?_eq_none (by rw [strL_length]; omega)]
theorem run_cut_str (f : Nat → BitVec 8) (n k : Nat) (hk : k ≤ n) (w : World) : (Instr.sliceAt 9 (.string (strOf f n)) none (some (.int .i64 (k : Int))) none).run Try.prog w = .ok (.string (strOf f k)) w := by
  have hu : Try.prog.underlying 9 = some .string := by kernel_rfl
  rw [run_sliceAt_string (h := hu)]
  have h0 : (0 : Int) ≤ (k : Int) := by omega
  have hs : k ≤ (strOf f n).size := by rw [strOf_size]; exact hk
  have hc : (strOf f n).extract 0 k = strOf f k := by
    rw [str_cut f 0 k n (Nat.zero_le _) hk]
    congr 1
    funext i
    rw [Nat.zero_add]
  have h1 : (k : Int) ≤ ((strOf f n).size : Int) := by omega
  simp [Instr.slice, Sem.run_bind, run_underlying hu, Instr.sliceBounds, go_sem, h0, h1, hc]
/-- A counter's bytes: twelve that stay and a word's four. -/
def ctrOf (ctr : Nat → BitVec 8) (x : BitVec 32) (i : Nat) : BitVec 8 := if i < 12 then ctr i else wb x (i - 12)
theorem ctrOf_of (ctr : Nat → BitVec 8) (d : Nat) : W4.of (ctrOf ctr ((W4.of ctr).d + BitVec.ofNat 32 d)) = (W4.of ctr).plus d := by
  have h := wd_wb ((W4.of ctr).d + BitVec.ofNat 32 d)
  simp only [W4.of, ctrOf, W4.plus, Nat.reduceLT, if_true, if_false, Nat.reduceSub]
  simp only [W4.of] at h
  rw [h]
theorem wd_sum (p q r s : BitVec 8) : p.setWidth 32 <<< 24 + q.setWidth 32 <<< 16 + r.setWidth 32 <<< 8 + s.setWidth 32 = wd p q r s := by
  have h1 : (p.setWidth 32 <<< 24) &&& (q.setWidth 32 <<< 16) = 0#32 := by
    apply BitVec.eq_of_getLsbD_eq
    intro i hi
    rcases lt32 i hi with rfl | rfl | rfl | rfl | rfl | rfl | rfl | rfl | rfl | rfl | rfl | rfl | rfl | rfl | rfl | rfl | rfl | rfl | rfl | rfl | rfl | rfl | rfl | rfl | rfl | rfl | rfl | rfl | rfl | rfl | rfl | rfl <;> simp
  rw [BitVec.add_eq_or_of_and_eq_zero _ _ h1]
  have h2 : (p.setWidth 32 <<< 24 ||| q.setWidth 32 <<< 16) &&& (r.setWidth 32 <<< 8) = 0#32 := by
    apply BitVec.eq_of_getLsbD_eq
    intro i hi
    rcases lt32 i hi with rfl | rfl | rfl | rfl | rfl | rfl | rfl | rfl | rfl | rfl | rfl | rfl | rfl | rfl | rfl | rfl | rfl | rfl | rfl | rfl | rfl | rfl | rfl | rfl | rfl | rfl | rfl | rfl | rfl | rfl | rfl | rfl <;> simp
  rw [BitVec.add_eq_or_of_and_eq_zero _ _ h2]
  have h3 : (p.setWidth 32 <<< 24 ||| q.setWidth 32 <<< 16 ||| r.setWidth 32 <<< 8) &&& s.setWidth 32 = 0#32 := by
    apply BitVec.eq_of_getLsbD_eq
    intro i hi
    rcases lt32 i hi with rfl | rfl | rfl | rfl | rfl | rfl | rfl | rfl | rfl | rfl | rfl | rfl | rfl | rfl | rfl | rfl | rfl | rfl | rfl | rfl | rfl | rfl | rfl | rfl | rfl | rfl | rfl | rfl | rfl | rfl | rfl | rfl <;> simp
  rw [BitVec.add_eq_or_of_and_eq_zero _ _ h3]
  unfold wd
  apply BitVec.eq_of_getLsbD_eq
  intro i hi
  rcases lt32 i hi with rfl | rfl | rfl | rfl | rfl | rfl | rfl | rfl | rfl | rfl | rfl | rfl | rfl | rfl | rfl | rfl | rfl | rfl | rfl | rfl | rfl | rfl | rfl | rfl | rfl | rfl | rfl | rfl | rfl | rfl | rfl | rfl <;> simp
theorem wb4 (y : BitVec 32) (w : World) : (Sem.run Try.prog (convert 25 9 (.slice (some ⟨w.heap.size, 0, none⟩) 4 4)) (w.alloc (.cells #[.int .u8 (n8 ((y >>> 24).setWidth 8)), .int .u8 (n8 ((y >>> 16).setWidth 8)), .int .u8 (n8 ((y >>> 8).setWidth 8)), .int .u8 (n8 (y.setWidth 8))] 5)).drew.drew) = .ok (.string (strOf (wb y) 4)) (w.alloc (.cells #[.int .u8 (n8 ((y >>> 24).setWidth 8)), .int .u8 (n8 ((y >>> 16).setWidth 8)), .int .u8 (n8 ((y >>> 8).setWidth 8)), .int .u8 (n8 (y.setWidth 8))] 5)).drew.drew :=
  conv_str (wb y) w.heap.size 0 4 4 _ (fun i hi => by
    show (w.alloc _).cell? _ = _
    rw [Nat.zero_add, cell_of_row _ _ _ _ _ _ (heap_alloc_last w _)]
    rcases (by omega : i = 0 ∨ i = 1 ∨ i = 2 ∨ i = 3) with rfl | rfl | rfl | rfl <;> simp [wb])
set_option maxHeartbeats 4000000 in
theorem countR_any (f : Nat → BitVec 8) (n : Nat) (w : World) :
    Calls Try.prog 44 #[.string (strOf f 16), .int .i64 (n : Int)] w fun e w' => e = .returned (.string (strOf (ctrOf f ((W4.of f).d + BitVec.ofNat 32 n)) 16)) ∧ Below w.heap.size w w' := by
  have e1 : IntKind.u32.wrap (n : Int) = n32 (BitVec.ofNat 32 n) := by rw [wrap_n32, ofInt_lit32]
  have i0 : ∀ w' : World, (Instr.index 9 (.string (strOf f 16)) (.int .i64 12)).run Try.prog w' = .ok (.int .u8 (n8 (f 12))) w' := run_at_str f 16 12 (by omega)
  have i1 : ∀ w' : World, (Instr.index 9 (.string (strOf f 16)) (.int .i64 13)).run Try.prog w' = .ok (.int .u8 (n8 (f 13))) w' := run_at_str f 16 13 (by omega)
  have i2 : ∀ w' : World, (Instr.index 9 (.string (strOf f 16)) (.int .i64 14)).run Try.prog w' = .ok (.int .u8 (n8 (f 14))) w' := run_at_str f 16 14 (by omega)
  have i3 : ∀ w' : World, (Instr.index 9 (.string (strOf f 16)) (.int .i64 15)).run Try.prog w' = .ok (.int .u8 (n8 (f 15))) w' := run_at_str f 16 15 (by omega)
  have cu : ∀ w' : World, (Instr.sliceAt 9 (.string (strOf f 16)) none (some (.int .i64 12)) none).run Try.prog w' = .ok (.string (strOf f 12)) w' := run_cut_str f 16 12 (by omega)
  have sj : ∀ y, strOf f 12 ++ strOf (wb y) 4 = strOf (ctrOf f y) 16 := fun y => str_join f (wb y) (ctrOf f y) 12 4 (fun i hi => by simp [ctrOf, hi]) (fun i hi => by unfold ctrOf; rw [if_neg (by omega), show 12 + i - 12 = i by omega])
  have hT := strOf_size f 12
  generalize strOf f 16 = S at *
  generalize strOf f 12 = T at *
  go_enter Try.func44, Try.ntmps44
  go_wp2_with fail
  refine region_quiet mixedOrders (by kernel_rfl) ?_
  repeat (go_big_quiet_step (fail))
  refine wpQuiet_nil ?_
  go_wp2_with fail
  rw [wd_sum]
  generalize hy : (wd (f 12) (f 13) (f 14) (f 15) + BitVec.ofNat 32 n) = y
  have cv := wb4 y w
  have hU := strOf_size (wb y) 4
  have hj := sj y
  generalize strOf (wb y) 4 = U at *
  go_upto_region 2 with (fail)
  go_region_with (fail)
  go_wp2_with fail
  go_ret
  refine ⟨?_, ((Below.refl _ _).alloc (Nat.le_refl _) _).drew.drew⟩
  exact congrArg (fun s => Ending.returned (Value.string s)) (by rw [← hy]; rfl)
set_option maxHeartbeats 8000000 in
theorem streamR_any (k ctr f : Nat → BitVec 8) (n at_ p : Nat) (w : World) (hk : w.heap[p]? = some (.cells (bytesArr (keyF (kbyte k)) 432) 87 (0, 0))) (hat : at_ ≤ 4611686018427387904) (hn : n ≤ 100000000000000) :
    Calls Try.prog 27 #[.pointer (some ⟨p, 0, none⟩), .string (strOf ctr 16), .int .i64 (at_ : Int), .string (strOf f n)] w fun e w' => e = .returned (.string (strOf (fun j => f j ^^^ strm (sched k) (W4.of ctr) (at_ + j)) n)) ∧ Below w.heap.size w w' := by
  have hF := strOf_size f n
  have HX := Lib.hid (run_at_str f n)
  generalize strOf f n = F at *
  have HK := Lib.hid hk
  clear hk
  go_enter Try.func27, Try.ntmps27
  go_wp2_with fail
  go_loopw [9, 10, 11, 12] (fun v9 v10 v11 v12 wr => ∃ i : Nat, i ≤ n ∧ v12 = .int .i64 (i : Int) ∧ Own w.heap.size v9 i (fun j => f j ^^^ strm (sched k) (W4.of ctr) (at_ + j)) wr ∧ (∃ (m : Int) (s : ByteArray), v11 = .int .i64 m ∧ v10 = .string s ∧ ∀ mn : Nat, m = (mn : Int) → s = strOf (turned sbox (sched k) ((W4.of ctr).plus mn)).byte 16) ∧ Below w.heap.size w wr)
    (fun _ _ _ v12 _ => n - (intOf v12).toNat)
  case atStart => exact ⟨0, by omega, rfl, Own.nil _ _ _ (Nat.le_refl _), ⟨-1, _, rfl, rfl, fun mn h => by omega⟩, Below.refl _ _⟩
  case round =>
    obtain ⟨i, hi, rfl, own, ⟨m, s, rfl, rfl, hs⟩, hb⟩ := hrel
    have HS := Lib.hid hs
    clear hs
    have OW := Lib.hid own
    have HB := Lib.hid hb
    have hbs := hb.size
    clear own hb
    by_cases hin : i < n
    · have hinI : (i : Int) < (n : Int) := by omega
      have hqm : (at_ : Int) + (i : Int) ≤ 4611786018427387904 := by omega
      obtain ⟨d, hd⟩ : ∃ d, d = (at_ + i) / 16 := ⟨_, rfl⟩
      obtain ⟨r, hr⟩ : ∃ r, r = (at_ + i) % 16 := ⟨_, rfl⟩
      have hr16 : r < 16 := by omega
      have e2 : ((at_ : Int) + (i : Int)) / 16 = (d : Int) := by omega
      have e3 : ((at_ : Int) + (i : Int)) % 16 = (r : Int) := by omega
      have x1 := HX.out i hin
      have hx : strm (sched k) (W4.of ctr) (at_ + i) = (turned sbox (sched k) ((W4.of ctr).plus d)).byte r := by unfold strm; rw [hd, hr]
      have HX1 := Lib.hid hx
      have HD := Lib.hid hd
      clear hx hd hr
      go_upto_if 26 with (fail)
      go_cut [10, 11, 13] from 14 to 45 (fun v10 v11 v13 wx => v13 = .int .i64 (d : Int) ∧ v11 = .int .i64 (d : Int) ∧ v10 = .string (strOf (turned sbox (sched k) ((W4.of ctr).plus d)).byte 16) ∧ Below wr.heap.size wr wx)
      case first =>
        by_cases hdm : m = (d : Int)
        · have hs := HS.out d hdm
          go_wp2_with fail
          go_meet
          exact ⟨by first | rfl | rw [e2], by rw [hdm], by rw [hs], Below.refl _ _⟩
        · go_wp2_with fail
          refine (countR_any ctr d wr).mono ?_
          rintro e w1 ⟨rfl, hb1⟩
          have hk1 := ((HB.out.trans (hb1.mono hbs)).block _ (lt_of_heap HK.out)).trans HK.out
          have BL := Lib.hid (blockR_any k (ctrOf ctr ((W4.of ctr).d + BitVec.ofNat 32 d)) p w1 hk1)
          rw [ctrOf_of] at BL
          have H1 := Lib.hid hb1
          clear hk1 hb1
          go_wp2_with fail
          refine BL.out.mono ?_
          rintro e w2 ⟨rfl, hb2⟩
          have hb3 := H1.out.trans (hb2.mono H1.out.size)
          clear hb2
          go_wp2_with fail
          go_meet
          exact ⟨by first | rfl | rw [e2], by first | rfl | rw [e2], rfl, hb3⟩
      case rest =>
        obtain ⟨rfl, rfl, rfl, hbx⟩ := hcut
        have e0 : IntKind.i64.wrap ((at_ : Int) + (i : Int)) = (at_ : Int) + (i : Int) := by rw [IntKind.wrap_i64]; omega
        have e3b : ((at_ : Int) + (i : Int)).tmod 16 = (r : Int) := by rw [Int.tmod_eq_emod_of_nonneg (by omega)]; omega
        have x2 := run_at_str (turned sbox (sched k) ((W4.of ctr).plus d)).byte 16 r hr16
        have HT := Lib.hid HX1.out
        generalize hTT : (turned sbox (sched k) ((W4.of ctr).plus d)).byte = T at *
        have HTT := Lib.hid hTT
        clear hTT
        have HS2 := Lib.hid (strOf_size T 16)
        generalize hTS : strOf T 16 = TS at *
        have HTS := Lib.hid hTS
        clear hTS
        have ow := OW.out.later hbx
        have OC := Lib.hid ow
        have HBC := Lib.hid (HB.out.trans (hbx.mono hbs))
        clear ow hbx OW HB
        go_upto_region 9 with (fail)
        have O1 := Lib.hid ((OC.out.alloc (.cells #[.int .u8 (n8 (f i ^^^ T r))] 5)).later ((Below.refl _ _).drew))
        have S1 := Lib.hid (show Src Try.prog 1 25 (.slice (some ⟨wc.heap.size, 0, none⟩) 1 1) 1 (firsts (fun _ => f i ^^^ T r) 1) (wc.alloc (.cells #[.int .u8 (n8 (f i ^^^ T r))] 5)).drew from src_bytes (fun _ => f i ^^^ T r) wc.heap.size 0 1 1 _ (fun j hj => by
          show (wc.alloc _).cell? _ = _
          rw [cell_of_row _ _ _ _ _ _ (heap_alloc_last wc _)]
          obtain rfl : j = 0 := by omega
          rfl))
        have hi14 : i + 1 ≤ 200000000000000 := by omega
        go_region_held3 (fun _ => True) (first | trivial) (first | (refine step_append_bytes (o := ⟨some 45, _, _, _, _, _⟩) (by rfl) _ _ 25 (by rfl) (by rfl) (by rfl) O1.out S1.out hi14 ?_; intro v' w1 ho hg))
        all_goals (
          have ho2 := ho.congr (g := fun j => f j ^^^ strm (sched k) (W4.of ctr) (at_ + j)) (fun j hj => by
            unfold joinb
            by_cases hji : j < i
            · rw [if_pos hji]
            · obtain rfl : j = i := by omega
              rw [if_neg hji, HT.out])
          have hb4 := ((HBC.out.alloc HBC.out.size (.cells #[.int .u8 (n8 (f i ^^^ T r))] 5)).drew).trans (hg.below O1.out)
          go_wp2_with fail
          go_roundw
          case rel =>
            exact ⟨i + 1, by omega, by go_num, ho2, ⟨_, _, rfl, rfl, fun mn h => by
              obtain rfl : d = mn := by omega
              rw [← HTS.out, ← HTT.out]⟩, hb4⟩
          case measure => simp [intOf]; omega)
    · obtain rfl : i = n := by omega
      have cv : (Sem.run Try.prog (convert 25 9 u9) wr) = .ok (.string (strOf (fun j => f j ^^^ strm (sched k) (W4.of ctr) (at_ + j)) i)) wr := by
        rcases OW.out.row.2 with ⟨rfl, rfl⟩ | h
        · simp [convert, Sem.run_bind, run_underlying under_bytes, run_underlying (show Try.prog.underlying 9 = some .string by kernel_rfl)]
          rfl
        · by_cases h0 : i = 0
          · obtain ⟨g, cap, cur, rfl, _⟩ := h
            exact conv_str _ g 0 i cap wr (fun j hj => by omega)
          · obtain ⟨g, cap, rfl, _, _, _, _, hc⟩ := own_slice (by omega) OW.out.row
            exact conv_str _ g 0 i cap wr (fun j hj => by rw [Nat.zero_add]; exact hc j hj)
      go_wp2_with fail
      go_ret
      exact ⟨rfl, HB.out⟩
end Go.Proofs.Ytoocglckhphepaa
