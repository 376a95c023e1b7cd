/-
  TEXTS PUT TOGETHER: RefF, GcmO, Open, Trod, GcmK.
-/
import Derived.Test.YtjbpjoondmcnlabDoorRefE
import Derived.Test.YtjbpjoondmcnlabDoorMg27
import Derived.Test.YtjbpjoondmcnlabDoorMg22
import Derived.Test.YtjbpjoondmcnlabDoorMg07
import Derived.Test.YtjbpjoondmcnlabDoorMg19
import Derived.Deep.CutRange
import Derived.Test.YtjbpjoondmcnlabDoorMg25
import Derived.Test.YtjbpjoondmcnlabDoorMg03
import Derived.Test.YtjbpjoondmcnlabDoorMg01
import Derived.Test.YtjbpjoondmcnlabDoorMg24
set_option maxRecDepth 100000
/-
  THE DOCUMENT'S ANSWER FOR aes, SIXTH PART: a counter and a number, a stream.
-/
namespace Go.Proofs.YtjbpjoondmcnlabDoor
open Go Go.RowKit Go.BigFrame
set_option maxRecDepth 100000
theorem str_cut (f : Nat → BitVec 8) (lo hi len : Nat) (h1 : lo ≤ hi) (h2 : hi ≤ len) : (strOf f len).extract lo hi = strOf (fun i => f (lo + i)) (hi - lo) := by
  apply ByteArray.ext
  rw [ByteArray.data_extract]
  apply Array.ext_getElem?
  intro i
  show ((strL f len).toArray.extract lo hi)[i]? = (strL (fun i => f (lo + i)) (hi - lo)).toArray[i]?
  by_cases h : i < hi - lo
  · simp [strL, h]
    have : lo + i < len := by omega
    simp [this]
  · rw [Array.getElem?_eq_none (by simp [strL]; omega), Array.getElem?_eq_none (by simp [strL]; omega)]
theorem str_join (f g s : Nat → BitVec 8) (k m : Nat) (h1 : ∀ i, i < k → f i = s i) (h2 : ∀ i, i < m → g i = s (k + i)) : strOf f k ++ strOf g m = strOf s (k + m) := by
  apply ByteArray.ext
  rw [ByteArray.data_append]
  apply Array.ext'
  rw [Array.toList_append]
  show strL f k ++ strL g m = strL s (k + m)
  apply List.ext_getElem?
  intro i
  by_cases hi : i < k
  · rw [List.getElem?_append_left (by rw [strL_length]; exact hi)]
    simp [strL, hi, show i < k + m by omega, h1 i hi]
  · rw [List.getElem?_append_right (by rw [strL_length]; omega), strL_length]
    by_cases him : i < k + m
    · simp [strL, show i - k < m by omega, him, h2 (i - k) (by omega), show k + (i - k) = i by omega]
    · rw [List.getElem?_eq_none (by rw [strL_length]; omega), List.getElem?_eq_none (by rw [strL_length]; omega)]
theorem run_cut_str (f : Nat → BitVec 8) (n k : Nat) (hk : k ≤ n) (w : World) : (Instr.sliceAt 9 (.string (strOf f n)) none (some (.int .i64 (k : Int))) none).run Tryd.prog w = .ok (.string (strOf f k)) w := by
  have hu : Tryd.prog.underlying 9 = some .string := by kernel_rfl
  rw [run_sliceAt_string (h := hu)]
  have h0 : (0 : Int) ≤ (k : Int) := by omega
  have hs : k ≤ (strOf f n).size := by rw [strOf_size]; exact hk
  have hc : (strOf f n).extract 0 k = strOf f k := by
    rw [str_cut f 0 k n (Nat.zero_le _) hk]
    congr 1
    funext i
    rw [Nat.zero_add]
  have h1 : (k : Int) ≤ ((strOf f n).size : Int) := by omega
  simp [Instr.slice, Sem.run_bind, run_underlying hu, Instr.sliceBounds, go_sem, h0, h1, hc]
/-- A counter's bytes: twelve that stay and a word's four. -/
def ctrOf (ctr : Nat → BitVec 8) (x : BitVec 32) (i : Nat) : BitVec 8 := if i < 12 then ctr i else wb x (i - 12)
theorem ctrOf_of (ctr : Nat → BitVec 8) (d : Nat) : W4.of (ctrOf ctr ((W4.of ctr).d + BitVec.ofNat 32 d)) = (W4.of ctr).plus d := by
  have h := wd_wb ((W4.of ctr).d + BitVec.ofNat 32 d)
  simp only [W4.of, ctrOf, W4.plus, Nat.reduceLT, if_true, if_false, Nat.reduceSub]
  simp only [W4.of] at h
  rw [h]
theorem wd_sum (p q r s : BitVec 8) : p.setWidth 32 <<< 24 + q.setWidth 32 <<< 16 + r.setWidth 32 <<< 8 + s.setWidth 32 = wd p q r s := by
  have h1 : (p.setWidth 32 <<< 24) &&& (q.setWidth 32 <<< 16) = 0#32 := by
    apply BitVec.eq_of_getLsbD_eq
    intro i hi
    rcases lt32 i hi with rfl | rfl | rfl | rfl | rfl | rfl | rfl | rfl | rfl | rfl | rfl | rfl | rfl | rfl | rfl | rfl | rfl | rfl | rfl | rfl | rfl | rfl | rfl | rfl | rfl | rfl | rfl | rfl | rfl | rfl | rfl | rfl <;> simp
  rw [BitVec.add_eq_or_of_and_eq_zero _ _ h1]
  have h2 : (p.setWidth 32 <<< 24 ||| q.setWidth 32 <<< 16) &&& (r.setWidth 32 <<< 8) = 0#32 := by
    apply BitVec.eq_of_getLsbD_eq
    intro i hi
    rcases lt32 i hi with rfl | rfl | rfl | rfl | rfl | rfl | rfl | rfl | rfl | rfl | rfl | rfl | rfl | rfl | rfl | rfl | rfl | rfl | rfl | rfl | rfl | rfl | rfl | rfl | rfl | rfl | rfl | rfl | rfl | rfl | rfl | rfl <;> simp
  rw [BitVec.add_eq_or_of_and_eq_zero _ _ h2]
  have h3 : (p.setWidth 32 <<< 24 ||| q.setWidth 32 <<< 16 ||| r.setWidth 32 <<< 8) &&& s.setWidth 32 = 0#32 := by
    apply BitVec.eq_of_getLsbD_eq
    intro i hi
    rcases lt32 i hi with rfl | rfl | rfl | rfl | rfl | rfl | rfl | rfl | rfl | rfl | rfl | rfl | rfl | rfl | rfl | rfl | rfl | rfl | rfl | rfl | rfl | rfl | rfl | rfl | rfl | rfl | rfl | rfl | rfl | rfl | rfl | rfl <;> simp
  rw [BitVec.add_eq_or_of_and_eq_zero _ _ h3]
  unfold wd
  apply BitVec.eq_of_getLsbD_eq
  intro i hi
  rcases lt32 i hi with rfl | rfl | rfl | rfl | rfl | rfl | rfl | rfl | rfl | rfl | rfl | rfl | rfl | rfl | rfl | rfl | rfl | rfl | rfl | rfl | rfl | rfl | rfl | rfl | rfl | rfl | rfl | rfl | rfl | rfl | rfl | rfl <;> simp
theorem wb4 (y : BitVec 32) (w : World) : (Sem.run Tryd.prog (convert 31 9 (.slice (some ⟨w.heap.size, 0, none⟩) 4 4)) (w.alloc (.cells #[.int .u8 (n8 ((y >>> 24).setWidth 8)), .int .u8 (n8 ((y >>> 16).setWidth 8)), .int .u8 (n8 ((y >>> 8).setWidth 8)), .int .u8 (n8 (y.setWidth 8))] 5)).drew.drew) = .ok (.string (strOf (wb y) 4)) (w.alloc (.cells #[.int .u8 (n8 ((y >>> 24).setWidth 8)), .int .u8 (n8 ((y >>> 16).setWidth 8)), .int .u8 (n8 ((y >>> 8).setWidth 8)), .int .u8 (n8 (y.setWidth 8))] 5)).drew.drew :=
  conv_str (wb y) w.heap.size 0 4 4 _ (fun i hi => by
    show (w.alloc _).cell? _ = _
    rw [Nat.zero_add, cell_of_row _ _ _ _ _ _ (heap_alloc_last w _)]
    rcases (by omega : i = 0 ∨ i = 1 ∨ i = 2 ∨ i = 3) with rfl | rfl | rfl | rfl <;> simp [wb])
set_option maxHeartbeats 4000000 in
theorem countR_any (f : Nat → BitVec 8) (n : Nat) (w : World) :
    Calls Tryd.prog 60 #[.string (strOf f 16), .int .i64 (n : Int)] w fun e w' => e = .returned (.string (strOf (ctrOf f ((W4.of f).d + BitVec.ofNat 32 n)) 16)) ∧ Below w.heap.size w w' := by
  have e1 : IntKind.u32.wrap (n : Int) = n32 (BitVec.ofNat 32 n) := by rw [wrap_n32, ofInt_lit32]
  have i0 : ∀ w' : World, (Instr.index 9 (.string (strOf f 16)) (.int .i64 12)).run Tryd.prog w' = .ok (.int .u8 (n8 (f 12))) w' := run_at_str f 16 12 (by omega)
  have i1 : ∀ w' : World, (Instr.index 9 (.string (strOf f 16)) (.int .i64 13)).run Tryd.prog w' = .ok (.int .u8 (n8 (f 13))) w' := run_at_str f 16 13 (by omega)
  have i2 : ∀ w' : World, (Instr.index 9 (.string (strOf f 16)) (.int .i64 14)).run Tryd.prog w' = .ok (.int .u8 (n8 (f 14))) w' := run_at_str f 16 14 (by omega)
  have i3 : ∀ w' : World, (Instr.index 9 (.string (strOf f 16)) (.int .i64 15)).run Tryd.prog w' = .ok (.int .u8 (n8 (f 15))) w' := run_at_str f 16 15 (by omega)
  have cu : ∀ w' : World, (Instr.sliceAt 9 (.string (strOf f 16)) none (some (.int .i64 12)) none).run Tryd.prog w' = .ok (.string (strOf f 12)) w' := run_cut_str f 16 12 (by omega)
  have sj : ∀ y, strOf f 12 ++ strOf (wb y) 4 = strOf (ctrOf f y) 16 := fun y => str_join f (wb y) (ctrOf f y) 12 4 (fun i hi => by simp [ctrOf, hi]) (fun i hi => by unfold ctrOf; rw [if_neg (by omega), show 12 + i - 12 = i by omega])
  have hT := strOf_size f 12
  generalize strOf f 16 = S at *
  generalize strOf f 12 = T at *
  go_enter Tryd.func60, Tryd.ntmps60
  go_wp2_with fail
  refine region_quiet mixedOrders (by kernel_rfl) ?_
  repeat (go_big_quiet_step (fail))
  refine wpQuiet_nil ?_
  go_wp2_with fail
  rw [wd_sum]
  generalize hy : (wd (f 12) (f 13) (f 14) (f 15) + BitVec.ofNat 32 n) = y
  have cv := wb4 y w
  have hU := strOf_size (wb y) 4
  have hj := sj y
  generalize strOf (wb y) 4 = U at *
  go_upto_region 2 with (fail)
  go_region_with (fail)
  go_wp2_with fail
  go_ret
  refine ⟨?_, ((Below.refl _ _).alloc (Nat.le_refl _) _).drew.drew⟩
  exact congrArg (fun s => Ending.returned (Value.string s)) (by rw [← hy]; rfl)
set_option maxHeartbeats 8000000 in
theorem streamR_any (k ctr f : Nat → BitVec 8) (n at_ p : Nat) (w : World) (hk : w.heap[p]? = some (.cells (bytesArr (keyF (kbyte k)) 432) 110 (0, 0))) (hat : at_ ≤ 4611686018427387904) (hn : n ≤ 100000000000000) :
    Calls Tryd.prog 44 #[.pointer (some ⟨p, 0, none⟩), .string (strOf ctr 16), .int .i64 (at_ : Int), .string (strOf f n)] w fun e w' => e = .returned (.string (strOf (fun j => f j ^^^ strm (sched k) (W4.of ctr) (at_ + j)) n)) ∧ Below w.heap.size w w' := by
  have hF := strOf_size f n
  have HX := Lib.hid (run_at_str f n)
  generalize strOf f n = F at *
  have HK := Lib.hid hk
  clear hk
  go_enter Tryd.func44, Tryd.ntmps44
  go_wp2_with fail
  go_loopw [9, 10, 11, 12] (fun v9 v10 v11 v12 wr => ∃ i : Nat, i ≤ n ∧ v12 = .int .i64 (i : Int) ∧ Own w.heap.size v9 i (fun j => f j ^^^ strm (sched k) (W4.of ctr) (at_ + j)) wr ∧ (∃ (m : Int) (s : ByteArray), v11 = .int .i64 m ∧ v10 = .string s ∧ ∀ mn : Nat, m = (mn : Int) → s = strOf (turned sbox (sched k) ((W4.of ctr).plus mn)).byte 16) ∧ Below w.heap.size w wr)
    (fun _ _ _ v12 _ => n - (intOf v12).toNat)
  case atStart => exact ⟨0, by omega, rfl, Own.nil _ _ _ (Nat.le_refl _), ⟨-1, _, rfl, rfl, fun mn h => by omega⟩, Below.refl _ _⟩
  case round =>
    obtain ⟨i, hi, rfl, own, ⟨m, s, rfl, rfl, hs⟩, hb⟩ := hrel
    have HS := Lib.hid hs
    clear hs
    have OW := Lib.hid own
    have HB := Lib.hid hb
    have hbs := hb.size
    clear own hb
    by_cases hin : i < n
    · have hinI : (i : Int) < (n : Int) := by omega
      have hqm : (at_ : Int) + (i : Int) ≤ 4611786018427387904 := by omega
      obtain ⟨d, hd⟩ : ∃ d, d = (at_ + i) / 16 := ⟨_, rfl⟩
      obtain ⟨r, hr⟩ : ∃ r, r = (at_ + i) % 16 := ⟨_, rfl⟩
      have hr16 : r < 16 := by omega
      have e2 : ((at_ : Int) + (i : Int)) / 16 = (d : Int) := by omega
      have e3 : ((at_ : Int) + (i : Int)) % 16 = (r : Int) := by omega
      have x1 := HX.out i hin
      have hx : strm (sched k) (W4.of ctr) (at_ + i) = (turned sbox (sched k) ((W4.of ctr).plus d)).byte r := by unfold strm; rw [hd, hr]
      have HX1 := Lib.hid hx
      have HD := Lib.hid hd
      clear hx hd hr
      go_upto_if 26 with (fail)
      go_cut [10, 11, 13] from 14 to 45 (fun v10 v11 v13 wx => v13 = .int .i64 (d : Int) ∧ v11 = .int .i64 (d : Int) ∧ v10 = .string (strOf (turned sbox (sched k) ((W4.of ctr).plus d)).byte 16) ∧ Below wr.heap.size wr wx)
      case first =>
        by_cases hdm : m = (d : Int)
        · have hs := HS.out d hdm
          go_wp2_with fail
          go_meet
          exact ⟨by first | rfl | rw [e2], by rw [hdm], by rw [hs], Below.refl _ _⟩
        · go_wp2_with fail
          refine (countR_any ctr d wr).mono ?_
          rintro e w1 ⟨rfl, hb1⟩
          have hk1 := ((HB.out.trans (hb1.mono hbs)).block _ (lt_of_heap HK.out)).trans HK.out
          have BL := Lib.hid (blockR_any k (ctrOf ctr ((W4.of ctr).d + BitVec.ofNat 32 d)) p w1 hk1)
          rw [ctrOf_of] at BL
          have H1 := Lib.hid hb1
          clear hk1 hb1
          go_wp2_with fail
          refine BL.out.mono ?_
          rintro e w2 ⟨rfl, hb2⟩
          have hb3 := H1.out.trans (hb2.mono H1.out.size)
          clear hb2
          go_wp2_with fail
          go_meet
          exact ⟨by first | rfl | rw [e2], by first | rfl | rw [e2], rfl, hb3⟩
      case rest =>
        obtain ⟨rfl, rfl, rfl, hbx⟩ := hcut
        have e0 : IntKind.i64.wrap ((at_ : Int) + (i : Int)) = (at_ : Int) + (i : Int) := by rw [IntKind.wrap_i64]; omega
        have e3b : ((at_ : Int) + (i : Int)).tmod 16 = (r : Int) := by rw [Int.tmod_eq_emod_of_nonneg (by omega)]; omega
        have x2 := run_at_str (turned sbox (sched k) ((W4.of ctr).plus d)).byte 16 r hr16
        have HT := Lib.hid HX1.out
        generalize hTT : (turned sbox (sched k) ((W4.of ctr).plus d)).byte = T at *
        have HTT := Lib.hid hTT
        clear hTT
        have HS2 := Lib.hid (strOf_size T 16)
        generalize hTS : strOf T 16 = TS at *
        have HTS := Lib.hid hTS
        clear hTS
        have ow := OW.out.later hbx
        have OC := Lib.hid ow
        have HBC := Lib.hid (HB.out.trans (hbx.mono hbs))
        clear ow hbx OW HB
        go_upto_region 9 with (fail)
        have O1 := Lib.hid ((OC.out.alloc (.cells #[.int .u8 (n8 (f i ^^^ T r))] 5)).later ((Below.refl _ _).drew))
        have S1 := Lib.hid (show Src Tryd.prog 1 31 (.slice (some ⟨wc.heap.size, 0, none⟩) 1 1) 1 (firsts (fun _ => f i ^^^ T r) 1) (wc.alloc (.cells #[.int .u8 (n8 (f i ^^^ T r))] 5)).drew from src_bytes (fun _ => f i ^^^ T r) wc.heap.size 0 1 1 _ (fun j hj => by
          show (wc.alloc _).cell? _ = _
          rw [cell_of_row _ _ _ _ _ _ (heap_alloc_last wc _)]
          obtain rfl : j = 0 := by omega
          rfl))
        have hi14 : i + 1 ≤ 200000000000000 := by omega
        go_region_held3 (fun _ => True) (first | trivial) (first | (refine step_append_bytes (o := ⟨some 45, _, _, _, _, _⟩) (by rfl) _ _ 31 (by rfl) (by rfl) (by rfl) O1.out S1.out hi14 ?_; intro v' w1 ho hg))
        all_goals (
          have ho2 := ho.congr (g := fun j => f j ^^^ strm (sched k) (W4.of ctr) (at_ + j)) (fun j hj => by
            unfold joinb
            by_cases hji : j < i
            · rw [if_pos hji]
            · obtain rfl : j = i := by omega
              rw [if_neg hji, HT.out])
          have hb4 := ((HBC.out.alloc HBC.out.size (.cells #[.int .u8 (n8 (f i ^^^ T r))] 5)).drew).trans (hg.below O1.out)
          go_wp2_with fail
          go_roundw
          case rel =>
            exact ⟨i + 1, by omega, by go_num, ho2, ⟨_, _, rfl, rfl, fun mn h => by
              obtain rfl : d = mn := by omega
              rw [← HTS.out, ← HTT.out]⟩, hb4⟩
          case measure => simp [intOf]; omega)
    · obtain rfl : i = n := by omega
      have cv : (Sem.run Tryd.prog (convert 31 9 u9) wr) = .ok (.string (strOf (fun j => f j ^^^ strm (sched k) (W4.of ctr) (at_ + j)) i)) wr := by
        rcases OW.out.row.2 with ⟨rfl, rfl⟩ | h
        · simp [convert, Sem.run_bind, run_underlying under_bytes, run_underlying (show Tryd.prog.underlying 9 = some .string by kernel_rfl)]
          rfl
        · by_cases h0 : i = 0
          · obtain ⟨g, cap, cur, rfl, _⟩ := h
            exact conv_str _ g 0 i cap wr (fun j hj => by omega)
          · obtain ⟨g, cap, rfl, _, _, _, _, hc⟩ := own_slice (by omega) OW.out.row
            exact conv_str _ g 0 i cap wr (fun j hj => by rw [Nat.zero_add]; exact hc j hj)
      go_wp2_with fail
      go_ret
      exact ⟨rfl, HB.out⟩
end Go.Proofs.YtjbpjoondmcnlabDoor
/-
  ROWS OF BOOLS, the document's bits of a block, and the bytes that its product tells.
-/
namespace Go.Proofs.YtjbpjoondmcnlabDoor
open Go Go.RowKit Go.BigFrame
set_option maxRecDepth 100000
set_option linter.unusedSimpArgs false
def boolArr (f : Nat → Bool) (n : Nat) : Array Value := ((List.range n).map fun i => .bool (f i)).toArray
theorem boolArr_size (f : Nat → Bool) (n : Nat) : (boolArr f n).size = n := by simp [boolArr]
theorem boolArr_get (f : Nat → Bool) (n i : Nat) (h : i < n) : (boolArr f n)[i]? = some (.bool (f i)) := by simp [boolArr, h]
theorem boolArr_congr (f g : Nat → Bool) (n : Nat) (h : ∀ i, i < n → f i = g i) : boolArr f n = boolArr g n := by
  unfold boolArr
  congr 1
  exact List.map_congr_left (fun i hi => by rw [h i (List.mem_range.1 hi)])
theorem boolArr_one (f : Nat → Bool) (n : Nat) : (boolArr f n).all (·.oneCell') = true := by
  rw [Array.all_eq_true]
  intro i hi
  simp [boolArr]
  rfl
theorem boolArr_set (f : Nat → Bool) (n j : Nat) (x : Bool) : (boolArr f n).setIfInBounds j (.bool x) = boolArr (fun i => if i = j then x else f i) n := by
  apply Array.ext_getElem?
  intro i
  rw [Array.getElem?_setIfInBounds]
  by_cases hj : j = i
  · subst hj
    by_cases hn : j < n
    · rw [if_pos rfl, if_pos (by rw [boolArr_size]; exact hn), boolArr_get _ _ _ hn]
      simp
    · rw [if_pos rfl, if_neg (by rw [boolArr_size]; exact hn), Array.getElem?_eq_none (by rw [boolArr_size]; omega)]
  · rw [if_neg hj]
    by_cases hn : i < n
    · rw [boolArr_get _ _ _ hn, boolArr_get _ _ _ hn, if_neg (fun h => hj h.symm)]
    · rw [Array.getElem?_eq_none (by rw [boolArr_size]; omega), Array.getElem?_eq_none (by rw [boolArr_size]; omega)]
structure BRow (w0 : World) (q n : Nat) (T : TypeId) (f : Nat → Bool) (w : World) : Prop where
  row : w.heap[q]? = some (.cells (boolArr f n) T (0, 0))
  new : w0.heap.size ≤ q
theorem BRow.at {w0 w : World} {q n : Nat} {T : TypeId} {f : Nat → Bool} (h : BRow w0 q n T f w) (j : Nat) (hj : j < n) : w.cell? ⟨q, j, none⟩ = some (.bool (f j)) := by
  rw [cell_of_row _ _ _ _ _ _ h.row, boolArr_get _ _ _ hj]
theorem BRow.free {w0 w : World} {q n : Nat} {T : TypeId} {f : Nat → Bool} (h : BRow w0 q n T f w) (j : Nat) : w.frozen? ⟨q, j, none⟩ = false := frozen_of_row _ _ _ _ _ h.row
theorem BRow.set {w0 w : World} {q n : Nat} {T : TypeId} {f : Nat → Bool} (h : BRow w0 q n T f w) (j : Nat) (x : Bool) : BRow w0 q n T (fun i => if i = j then x else f i) (w.setCell ⟨q, j, none⟩ (.bool x)) :=
  ⟨by rw [heap_setCell_same _ _ _ _ _ _ h.row, boolArr_set], h.new⟩
theorem BRow.later {w0 w w1 : World} {q n : Nat} {T : TypeId} {f : Nat → Bool} (h : BRow w0 q n T f w) (hb : Below w.heap.size w w1) : BRow w0 q n T f w1 :=
  ⟨by rw [hb.block q (lt_of_heap h.row)]; exact h.row, h.new⟩
theorem zero_bools : (Tryd.prog.info? 151).map (·.zero) = some (some (.agg (boolArr (fun _ => false) 128))) := by kernel_rfl
theorem size_bools : (Tryd.prog.info? 151).map (·.size) = some 128 := by kernel_rfl
theorem under_bools : Tryd.prog.underlying 151 = some (.array 128 4) := by kernel_rfl
theorem size_boolArr (f : Nat → Bool) : (Tryd.prog.info? 151).map (·.size) = some (boolArr f 128).size := by rw [boolArr_size]; exact size_bools
/-- A text's bits: the highest of each byte first. -/
def bitS (f : Nat → BitVec 8) (i : Nat) : Bool := (f (i / 8)).getLsbD (7 - i % 8)
theorem bit_of (x : BitVec 8) (k : Nat) : (x.toNat / 2 ^ k % 2 == 1) = x.getLsbD k := by
  rw [BitVec.getLsbD, Nat.testBit, Nat.shiftRight_eq_div_pow]
  have : (1 &&& x.toNat / 2 ^ k) = x.toNat / 2 ^ k % 2 := by
    rw [Nat.and_comm, Nat.and_one_is_mod]
  rw [this]
  rcases Nat.mod_two_eq_zero_or_one (x.toNat / 2 ^ k) with h | h <;> rw [h] <;> rfl
theorem bit_int (x : BitVec 8) (k : Nat) : ((n8 x / 2 ^ k).tmod 2 == 1) = x.getLsbD k := by
  rw [← bit_of, n8_nat, show ((x.toNat : Int) / 2 ^ k) = ((x.toNat / 2 ^ k : Nat) : Int) by rw [Int.natCast_ediv, Int.natCast_pow]; rfl]
  generalize x.toNat / 2 ^ k = m
  rw [Int.tmod_eq_emod_of_nonneg (by omega)]
  rcases Nat.mod_two_eq_zero_or_one m with h | h
  · rw [h, show (m : Int) % 2 = 0 by omega]; rfl
  · rw [h, show (m : Int) % 2 = 1 by omega]; rfl
set_option maxHeartbeats 4000000 in
theorem bits_any (f : Nat → BitVec 8) (w : World) :
    Calls Tryd.prog 97 #[.string (strOf f 16)] w fun e w' => e = .returned (.agg (boolArr (bitS f) 128)) ∧ Below w.heap.size w w' := by
  have HX := Lib.hid (run_at_str f 16)
  generalize strOf f 16 = S at *
  go_enter Tryd.func97, Tryd.ntmps97
  go_wp2_with (first
    | (refine wpList_alloc_row (o := ⟨some 2, .alloc 151, _, _, _, _⟩) rfl 151 rfl (boolArr (fun _ => false) 128) zero_bools ?_)
    | (refine wpList_alloc_row (o := ⟨some 3, .alloc 151, _, _, _, _⟩) rfl 151 rfl (boolArr (fun _ => false) 128) zero_bools ?_))
  have r0 : ((w.alloc (.cells (boolArr (fun _ => false) 128) 151)).alloc (.cells (boolArr (fun _ => false) 128) 151)).heap[w.heap.size]? = some (.cells (boolArr (fun _ => false) 128) 151 (0, 0)) := by
    rw [((Below.refl _ (w.alloc _)).alloc (Nat.le_refl _) _).block _ (by simp)]
    exact heap_alloc_last _ _
  have r1 : ((w.alloc (.cells (boolArr (fun _ => false) 128) 151)).alloc (.cells (boolArr (fun _ => false) 128) 151)).heap[w.heap.size + 1]? = some (.cells (boolArr (fun _ => false) 128) 151 (0, 0)) := by
    have h := heap_alloc_last (w.alloc (.cells (boolArr (fun _ => false) 128) 151)) (.cells (boolArr (fun _ => false) 128) 151)
    simpa using h
  have hb : Below w.heap.size w ((w.alloc (.cells (boolArr (fun _ => false) 128) 151)).alloc (.cells (boolArr (fun _ => false) 128) 151)) := ((Below.refl w.heap.size w).alloc (Nat.le_refl _) _).alloc (by simp) _
  generalize World.alloc _ _ = wa at *
  generalize hp : w.heap.size = p at *
  have HP := Lib.hid hp
  clear hp
  go_loopw [4] (fun s4 wr => ∃ k : Nat, k ≤ 128 ∧ s4 = .int .i64 (k : Int) ∧ wr.heap[p]? = some (.cells (boolArr (fun _ => false) 128) 151 (0, 0)) ∧ wr.heap[p + 1]? = some (.cells (boolArr (fun j => if j < k then bitS f j else false) 128) 151 (0, 0)) ∧ Below p w wr)
    (fun s4 _ => 128 - (intOf s4).toNat)
  case atStart => exact ⟨0, by omega, rfl, r0, by simpa using r1, hb⟩
  case round =>
    clear r0 r1 hb
    obtain ⟨k, hk, rfl, r0, r1, hb⟩ := hrel
    by_cases hk128 : k < 128
    · have hkI : (k : Int) < 128 := by omega
      obtain ⟨d, r, rfl, hr, hd⟩ : ∃ d r, k = 8 * d + r ∧ r < 8 ∧ d < 16 := ⟨k / 8, k % 8, by omega, by omega, by omega⟩
      have x1 := HX.out d hd
      have e1 : (((8 * d + r : Nat) : Int)).tdiv 8 = (d : Int) := by rw [Int.tdiv_eq_ediv_of_nonneg (by omega)]; omega
      have e2 : (((8 * d + r : Nat) : Int)).tmod 8 = (r : Int) := by rw [Int.tmod_eq_emod_of_nonneg (by omega)]; omega
      have hbit : bitS f (8 * d + r) = (f d).getLsbD (7 - r) := by unfold bitS; rw [show (8 * d + r) / 8 = d by omega, show (8 * d + r) % 8 = r by omega]
      generalize hkk : 8 * d + r = k at *
      have c1 : wr.cell? ⟨p + 1, k, none⟩ = some (.bool false) := by
        rw [cell_of_row _ _ _ _ _ _ r1, boolArr_get _ _ _ hk128, if_neg (Nat.lt_irrefl _)]
      have z1 : wr.frozen? ⟨p + 1, k, none⟩ = false := frozen_of_row _ _ _ _ _ r1
      go_wp2_with fail
      go_roundw
      case rel =>
        refine ⟨k + 1, by omega, by go_num, ?_, ?_, hb.setCell (show p ≤ p + 1 by omega) _⟩
        · rw [heap_setCell_other _ _ _ _ (show p ≠ p + 1 by omega)]; exact r0
        · rw [heap_setCell_same _ _ _ _ _ _ r1, boolArr_set, bit_int, ← hbit]
          congr 2
          refine boolArr_congr _ _ _ (fun j hj => ?_)
          by_cases h : j = k
          · subst h; rw [if_pos rfl, if_pos (by omega)]
          · rw [if_neg h]
            by_cases h2 : j < k
            · rw [if_pos h2, if_pos (by omega)]
            · rw [if_neg h2, if_neg (by omega)]
      case measure => simp [intOf]; omega
    · obtain rfl : k = 128 := by omega
      have e : boolArr (fun j => if j < 128 then bitS f j else false) 128 = boolArr (bitS f) 128 := boolArr_congr _ _ _ (fun j hj => by rw [if_pos hj])
      rw [e] at r1
      go_wp2_with (first
        | (refine wpList_load_row (o := ⟨some 21, .load 151 _, _, _, _, _⟩) rfl 151 _ rfl (p + 1) rfl 151 (boolArr (bitS f) 128) (0, 0) _ r1 under_bools rfl (size_boolArr _) ?_)
        | (refine wpList_store_row rfl 151 _ _ rfl p 151 (boolArr (fun _ => false) 128) (boolArr (bitS f) 128) rfl rfl r0 (by rw [boolArr_size, boolArr_size]) (size_boolArr _) (boolArr_one _ _) ?_; intro w2 rs))
      exact ret_row p 151 151 _ rfl _ rfl rs.row under_bools rfl (size_boolArr _) rfl ⟨rfl, by rw [HP.out]; exact hb.trans (rs.below p (Nat.le_refl _))⟩
end Go.Proofs.YtjbpjoondmcnlabDoor
namespace Go.Proofs.YtjbpjoondmcnlabDoor
open Go Go.RowKit Go.BigFrame
set_option maxRecDepth 100000
set_option linter.unusedSimpArgs false
theorem wd8_bit (f : Nat → BitVec 8) (q r : Nat) (hq : q < 8) (hr : r < 8) : (wd8 f).getLsbD (63 - (8 * q + r)) = (f q).getLsbD (7 - r) := by
  unfold wd8
  have hz : ∀ (i k : Nat), 8 ≤ k → (f i).getLsbD k = false := fun i k h => BitVec.getLsbD_of_ge _ _ h
  rcases (by omega : q = 0 ∨ q = 1 ∨ q = 2 ∨ q = 3 ∨ q = 4 ∨ q = 5 ∨ q = 6 ∨ q = 7) with rfl | rfl | rfl | rfl | rfl | rfl | rfl | rfl <;>
  rcases (by omega : r = 0 ∨ r = 1 ∨ r = 2 ∨ r = 3 ∨ r = 4 ∨ r = 5 ∨ r = 6 ∨ r = 7) with rfl | rfl | rfl | rfl | rfl | rfl | rfl | rfl <;>
  simp [hz]
theorem of_bit (f : Nat → BitVec 8) (i : Nat) (hi : i < 128) : (W2.of f).poly.getLsbD i = bitS f i := by
  rw [poly_bit _ i hi]
  unfold bitS W2.of
  by_cases h : i < 64
  · rw [if_pos h]
    have := wd8_bit f (i / 8) (i % 8) (by omega) (by omega)
    rw [show 8 * (i / 8) + i % 8 = i by omega] at this
    exact this
  · rw [if_neg h]
    have := wd8_bit (fun j => f (8 + j)) (i / 8 - 8) (i % 8) (by omega) (by omega)
    rw [show 63 - (8 * (i / 8 - 8) + i % 8) = 127 - i by omega] at this
    rw [this, show 8 + (i / 8 - 8) = i / 8 by omega]
/-- A byte, by its bits, the highest first. -/
def sumP (p : Nat → Bool) (j : Nat) : Nat → BitVec 8
  | 0 => 0#8
  | b + 1 => if p (8 * j + b) then sumP p j b + 128#8 >>> b else sumP p j b
def outB (p : Nat → Bool) : Nat → Nat → BitVec 8
  | 0 => fun _ => 0#8
  | k + 1 => if p k then updb (outB p k) (k / 8) (outB p k (k / 8) + 128#8 >>> (k % 8)) else outB p k
theorem outB_sum (p : Nat → Bool) (k j : Nat) : outB p k j = sumP p j (min 8 (k - 8 * j)) := by
  induction k with
  | zero => simp [outB, sumP]
  | succ k ih =>
    rw [outB]
    by_cases hj : j = k / 8
    · have e : min 8 (k + 1 - 8 * j) = min 8 (k - 8 * j) + 1 := by omega
      have e2 : min 8 (k - 8 * j) = k % 8 := by omega
      rw [e, sumP, ← ih, e2, show 8 * j + k % 8 = k by omega]
      by_cases hp : p k
      · rw [if_pos hp, if_pos hp, updb, if_pos hj, ← hj]
      · rw [if_neg hp, if_neg hp]
    · have e : min 8 (k + 1 - 8 * j) = min 8 (k - 8 * j) := by omega
      rw [e, ← ih]
      by_cases hp : p k
      · rw [if_pos hp, updb, if_neg hj]
      · rw [if_neg hp]
theorem sum8 : ∀ b0 b1 b2 b3 b4 b5 b6 b7 : Bool, ∀ c : Fin 8,
    (let p : Nat → Bool := fun i => match i with | 0 => b0 | 1 => b1 | 2 => b2 | 3 => b3 | 4 => b4 | 5 => b5 | 6 => b6 | _ => b7; (sumP p 0 8).getLsbD c.1 = p (7 - c.1)) := by decide +kernel
theorem sumP_congr (p q : Nat → Bool) (j i : Nat) (k : Nat) (h : ∀ b, b < k → p (8 * j + b) = q (8 * i + b)) : sumP p j k = sumP q i k := by
  induction k with
  | zero => rfl
  | succ k ih => rw [sumP, sumP, ih (fun b hb => h b (by omega)), h k (by omega)]
theorem sumP_bit (p : Nat → Bool) (j c : Nat) (hc : c < 8) : (sumP p j 8).getLsbD c = p (8 * j + (7 - c)) := by
  have h := sum8 (p (8 * j)) (p (8 * j + 1)) (p (8 * j + 2)) (p (8 * j + 3)) (p (8 * j + 4)) (p (8 * j + 5)) (p (8 * j + 6)) (p (8 * j + 7)) ⟨c, hc⟩
  dsimp only at h
  rw [sumP_congr p _ j 0 8 (fun b hb => ?_), h]
  · rcases (by omega : c = 0 ∨ c = 1 ∨ c = 2 ∨ c = 3 ∨ c = 4 ∨ c = 5 ∨ c = 6 ∨ c = 7) with rfl | rfl | rfl | rfl | rfl | rfl | rfl | rfl <;> rfl
  · rcases (by omega : b = 0 ∨ b = 1 ∨ b = 2 ∨ b = 3 ∨ b = 4 ∨ b = 5 ∨ b = 6 ∨ b = 7) with rfl | rfl | rfl | rfl | rfl | rfl | rfl | rfl <;> rfl
theorem byte_bit (x : W2) (j c : Nat) (hj : j < 16) (hc : c < 8) : (x.byte j).getLsbD c = x.poly.getLsbD (8 * j + (7 - c)) := by
  rw [poly_bit _ _ (by omega)]
  unfold W2.byte
  by_cases h : j < 8
  · rw [if_pos h, if_pos (by omega), BitVec.getLsbD_setWidth, BitVec.getLsbD_ushiftRight, show 56 - 8 * j + c = 63 - (8 * j + (7 - c)) by omega]
    simp [hc]
  · rw [if_neg h, if_neg (by omega), BitVec.getLsbD_setWidth, BitVec.getLsbD_ushiftRight, show 56 - 8 * (j - 8) + c = 127 - (8 * j + (7 - c)) by omega]
    simp [hc]
theorem out_byte (x : W2) (p : Nat → Bool) (h : ∀ i, i < 128 → p i = x.poly.getLsbD i) (j : Nat) (hj : j < 16) : outB p 128 j = x.byte j := by
  rw [outB_sum, show min 8 (128 - 8 * j) = 8 by omega]
  apply BitVec.eq_of_getLsbD_eq
  intro c hc
  rw [sumP_bit _ _ _ hc, byte_bit _ _ _ hj hc, h _ (by omega)]
theorem tog_row {w : World} {q : Nat} {T : TypeId} {g : BitVec 256} (h : w.heap[q]? = some (.cells (boolArr g.getLsbD 256) T (0, 0))) (j : Nat) (hj : j < 256) (b : Bool) (hb : b = !g.getLsbD j) :
    (w.setCell ⟨q, j, none⟩ (.bool b)).heap[q]? = some (.cells (boolArr (g ^^^ 1#256 <<< j).getLsbD 256) T (0, 0)) := by
  rw [heap_setCell_same _ _ _ _ _ _ h, boolArr_set]
  congr 2
  refine boolArr_congr _ _ _ (fun i hi => ?_)
  rw [BitVec.getLsbD_xor, GF.one_bit _ _ hj]
  by_cases hij : i = j
  · subst hij; simp [hb]
  · simp [hij]
theorem red_bit (p : BitVec 256) (i : Nat) (hi : i < 128) : (GF.redN p 128).getLsbD i = (GF.redV p).getLsbD i := by
  unfold GF.redV
  rw [BitVec.getLsbD_setWidth]
  simp [hi]
end Go.Proofs.YtjbpjoondmcnlabDoor
/-
  ARRAYS OF BYTES THAT CAME IN, by value, alone or in a struct.
-/
namespace Go.Proofs.YtjbpjoondmcnlabDoor
open Go Go.RowKit Go.ChangeShapes Go.WideShapes
theorem okWide_agg {P : Program} {w : World} {base : Nat} {t : TypeId} {v : Value} (h : (match P.underlying t with | some (.struct _) | some (.array _ _) => true | _ => false) = true) (hk : Value.okWide P w .any base t v) :
    ∃ cs, v = .agg cs ∧ cs.size = P.cellsOf t := by
  unfold Value.okWide at hk
  split at hk
  · obtain ⟨cs, h1, h2, _⟩ := hk; exact ⟨cs, h1, h2⟩
  · obtain ⟨cs, h1, h2, _⟩ := hk; exact ⟨cs, h1, h2⟩
  · rename_i h1 h2
    revert h
    split
    · rename_i f hf; exact absurd hf (h1 f)
    · rename_i a b hf; exact absurd hf (h2 a b)
    · intro h; cases h
/-- The bytes of an array's reading. -/
theorem trod_bytes {H : Type} {enc : TypeId × Value → H} {P : Program} {w : World} {base : Nat} {spare : Nat → Bool} {held : Bool} {fuel : Nat} {t e : TypeId} {n : Nat} {cs : List Value} {x : DataW H × List MemPlace}
    (ht : P.underlying t = some (.array n e)) (he : P.underlying e = some (.int .u8)) (hc : P.cellsOf e = 1) (h : DataW.trod enc P w base spare held fuel t cs = some x) :
    ∃ f : Nat → BitVec 8, ∀ i, i < n → cs[i]? = some (.int .u8 (n8 (f i))) := by
  obtain ⟨xs, m, _, _, _, hl, hf⟩ := DataW.trod_array ht h
  have key : ∀ i, i < n → ∃ z : Int, cs[i]? = some (.int .u8 z) ∧ (Lit.int .u8 z).wf = true := fun i hi => by
    have h1 := hf i hi
    rw [hc, Nat.mul_one, List.getElem?_eq_getElem (by omega)] at h1
    obtain ⟨z, h2, _, h3⟩ := DataW.trod_int he h1
    refine ⟨z, ?_, h3⟩
    have h4 : ((cs.drop i).take 1)[0]? = some (.int .u8 z) := by rw [h2]; rfl
    simpa using h4
  refine ⟨fun i => match cs[i]? with | some (.int _ z) => BitVec.ofInt 8 z | _ => 0#8, fun i hi => ?_⟩
  obtain ⟨z, h1, h2⟩ := key i hi
  simp only [h1]
  rw [← n8_of_wf z h2]
theorem bits_nat_eq (n : Nat) (h : n ≤ maxLen) : n ≤ 9223372036854775807 := by unfold maxLen at h; omega
end Go.Proofs.YtjbpjoondmcnlabDoor
/-
  A FIELD OF A STRUCT THAT CAME IN, by value.
-/
namespace Go.Proofs.YtjbpjoondmcnlabDoor
open Go Go.RowKit Go.ChangeShapes Go.WideShapes
theorem trod_get {H : Type} {enc : TypeId × Value → H} {w : World} {base : Nat} {spare : Nat → Bool} {held : Bool} {fs : Array Field} {cs : List Value} {xs : List (DataW H × List MemPlace)} {n : Nat} {t m o : Nat} {i : Nat} {f : Field}
    (hx : ∀ (i : Nat) (f : Field), fs[i]? = some f → DataW.trod enc Tryd.prog w base spare held n f.type ((cs.drop f.offset).take (Tryd.prog.cellsOf f.type)) = xs[i]?) (hl : xs.length = fs.size)
    (hf : fs[i]? = some f) (ht : f.type = t) (ho : f.offset = o) (hm : Tryd.prog.cellsOf t = m) : ∃ y, DataW.trod enc Tryd.prog w base spare held n t ((cs.drop o).take m) = some y := by
  subst ht ho hm
  have hi : i < xs.length := by rw [hl]; exact (Array.getElem?_eq_some_iff.1 hf).1
  exact ⟨xs[i], by rw [hx i f hf, List.getElem?_eq_getElem hi]⟩
end Go.Proofs.YtjbpjoondmcnlabDoor
/-
  GCM's TEST BY NOUGHTS, and a letter that came in.
-/
namespace Go.Proofs.YtjbpjoondmcnlabDoor
open Go Go.RowKit Go.BigFrame Go.ChangeShapes Go.WideShapes
set_option maxRecDepth 100000
set_option linter.unusedSimpArgs false
def noughts (_ : Nat) : BitVec 8 := 0#8
theorem seal0 : sealF (sched noughts) (hOf (sched noughts)) noughts noughts 0 noughts 0 0 = 0x58#8 := by decide +kernel
theorem seal15 : sealF (sched noughts) (hOf (sched noughts)) noughts noughts 0 noughts 0 15 = 0x5A#8 := by decide +kernel
theorem run_make12 (w : World) : (Instr.makeSlice 31 (.int .i64 12) (.int .i64 12)).run Tryd.prog w = .ok (.slice (some ⟨w.heap.size, 0, none⟩) 12 12) (w.alloc (.cells (bytesArr (fun _ => 0#8) 12) 5)) := run_make_bytes 12 (by omega) w
theorem in_none (w : World) (f : Nat → BitVec 8) : BytesIn w none 0 f := ⟨Nat.zero_le _, .inl rfl⟩
theorem new_noughts (w : World) : Calls Tryd.prog 26 #[.slice (some ⟨w.heap.size, 0, none⟩) 16 16] (w.alloc (.cells (bytesArr (fun _ => 0#8) 16) 5)) fun e w' =>
    ∃ p q, e = .returned (.tuple #[.pointer (some ⟨p, 0, none⟩), .int .i64 0]) ∧ Below w.heap.size w w' ∧ BoxAt w' p q (sched noughts) (hOf (sched noughts)) := by
  refine (gnew_ok noughts w.heap.size 0 16 _ (fun i hi => by rw [Nat.zero_add, cell_of_row _ _ _ _ _ _ (heap_alloc_last w _)]; exact bytesArr_get _ _ _ hi) (by simp)).mono ?_
  rintro e w' ⟨p, q, rfl, hp, hb, hx⟩
  exact ⟨p, q, rfl, ((Below.refl w.heap.size w).alloc (Nat.le_refl _) _).trans (hb.mono (by simp)), hx⟩
end Go.Proofs.YtjbpjoondmcnlabDoor
