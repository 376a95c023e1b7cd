/-
  THE DOCUMENT'S ANSWER FOR gcm: seal, Seal, Open.
-/
import Derived.Test.YtoocglckhphepaaGcmS
namespace Go.Proofs.Ytoocglckhphepaa
open Go Go.RowKit Go.BigFrame
set_option maxRecDepth 100000
set_option linter.unusedSimpArgs false
theorem w2_byte_of (f : Nat → BitVec 8) (i : Nat) (hi : i < 16) : (W2.of f).byte i = f i := by
  apply BitVec.eq_of_getLsbD_eq
  intro c hc
  rw [byte_bit _ _ _ hi hc, of_bit _ _ (by omega)]
  unfold bitS
  rw [show (8 * i + (7 - c)) / 8 = i by omega, show 7 - (8 * i + (7 - c)) % 8 = c by omega]
theorem sumK_add (h r : W2) (f : Nat → BitVec 8) (a b : Nat) : sumK h r f (a + b) = sumK h (sumK h r f a) (fun i => f (16 * a + i)) b := by
  induction b with
  | zero => rfl
  | succ b ih =>
    rw [← Nat.add_assoc, sumK, sumK, ih]
    congr 3
    funext i
    rw [show 16 * (a + b) + i = 16 * a + (16 * b + i) by omega]
theorem sumB_K (h r : W2) (f : Nat → BitVec 8) (n : Nat) : sumB h r f n = sumK h r (padF f n) (blocksOf n) := by
  unfold sumB
  have hd := Nat.div_add_mod n 16
  have e : sumK h r f (n / 16) = sumK h r (padF f n) (n / 16) := sumK_congr h r _ _ _ (fun i hi => by rw [padF, if_pos (by omega)])
  by_cases h0 : n % 16 = 0
  · rw [if_pos h0, e, show blocksOf n = n / 16 by unfold blocksOf; omega]
  · rw [if_neg h0, e, show blocksOf n = n / 16 + 1 by unfold blocksOf; omega, sumK]
    congr 2
    refine of2_congr _ _ (fun i hi => ?_)
    unfold padF
    by_cases h1 : i < n % 16
    · rw [if_pos h1, if_pos (by omega)]
    · rw [if_neg h1, if_neg (by omega)]
theorem joined (f g : Nat → BitVec 8) (a b : Nat) : strOf f a ++ strOf g b = strOf (joinb f a g) (a + b) :=
  str_join f g (joinb f a g) a b (fun i hi => by rw [joinb, if_pos hi]) (fun i _ => by rw [joinb, if_neg (by omega), show a + i - a = i by omega])
/-- All that is summed: what is beside, what is hidden, both counts. -/
def sealT (g : Nat → BitVec 8) (n : Nat) (u : Nat → BitVec 8) (m : Nat) : Nat → BitVec 8 :=
  joinb (joinb (joinb (padF g n) (16 * blocksOf n) (padF u m)) (16 * blocksOf n + 16 * blocksOf m) (cntB n)) (16 * blocksOf n + 16 * blocksOf m + 8) (cntB m)
theorem sealT_text (g : Nat → BitVec 8) (n : Nat) (u : Nat → BitVec 8) (m : Nat) :
    strOf (padF g n) (16 * blocksOf n) ++ strOf (padF u m) (16 * blocksOf m) ++ strOf (cntB n) 8 ++ strOf (cntB m) 8 = strOf (sealT g n u m) (16 * (blocksOf n + blocksOf m + 1)) := by
  rw [joined, joined, joined]
  unfold sealT
  congr 1
  omega
theorem sealT_sum (h : W2) (g : Nat → BitVec 8) (n : Nat) (u : Nat → BitVec 8) (m : Nat) :
    sumK h ⟨0#64, 0#64⟩ (sealT g n u m) (blocksOf n + blocksOf m + 1) = W2.mul (W2.xor (sumB h (sumB h ⟨0#64, 0#64⟩ g n) u m) (cnt2 n m)) h := by
  rw [sumK, sumK_add, sumB_K, sumB_K]
  rw [sumK_congr h ⟨0#64, 0#64⟩ (sealT g n u m) (padF g n) (blocksOf n) (fun i hi => by
    unfold sealT
    rw [joinb, if_pos (by omega), joinb, if_pos (by omega), joinb, if_pos hi])]
  rw [sumK_congr h _ (fun i => sealT g n u m (16 * blocksOf n + i)) (padF u m) (blocksOf m) (fun i hi => by
    unfold sealT
    rw [joinb, if_pos (by omega), joinb, if_pos (by omega), joinb, if_neg (by omega), show 16 * blocksOf n + i - 16 * blocksOf n = i by omega])]
  rw [of2_congr (fun i => sealT g n u m (16 * (blocksOf n + blocksOf m) + i)) (cnt2 n m).byte (fun i hi => by
    unfold sealT W2.byte
    by_cases h8 : i < 8
    · rw [if_pos h8, joinb, if_pos (by omega), joinb, if_neg (by omega), show 16 * (blocksOf n + blocksOf m) + i - (16 * blocksOf n + 16 * blocksOf m) = i by omega]
      rfl
    · rw [if_neg h8, joinb, if_neg (by omega), show 16 * (blocksOf n + blocksOf m) + i - (16 * blocksOf n + 16 * blocksOf m + 8) = i - 8 by omega]
      rfl), w2_of_byte]
theorem ctr_text (f : Nat → BitVec 8) (x : BitVec 8) (t : ByteArray) (ht : t = strOf (fun i => if i = 3 then x else 0#8) 4) : strOf f 12 ++ t = strOf (ctrN f x) 16 := by
  rw [ht]
  refine str_join f (fun i => if i = 3 then x else 0#8) (ctrN f x) 12 4 (fun i hi => by rw [ctrN, if_pos hi]) (fun i hi => ?_)
  show (if i = 3 then x else 0#8) = (if 12 + i < 12 then f (12 + i) else if 12 + i = 15 then x else 0#8)
  rw [if_neg (show ¬ 12 + i < 12 by omega)]
  by_cases h3 : i = 3
  · rw [if_pos h3, if_pos (show 12 + i = 15 by omega)]
  · rw [if_neg h3, if_neg (show ¬ 12 + i = 15 by omega)]
set_option maxHeartbeats 8000000 in
theorem sealR_any (k f g u : Nat → BitVec 8) (n m p : Nat) (w : World) (hk : w.heap[p]? = some (.cells (bytesArr (keyF (kbyte k)) 432) 87 (0, 0))) (hn : n ≤ 10000000000000) (hm : m ≤ 10000000000000) :
    Calls Try.prog 28 #[.pointer (some ⟨p, 0, none⟩), .string (strOf f 12), .string (strOf g n), .string (strOf u m)] w fun e w' => e = .returned (.string (strOf (tagW (sched k) (hOf (sched k)) f g n u m).byte 16)) ∧ Below w.heap.size w w' := by
  have KP := Lib.hid (fun (w' : World) (hb : Below w.heap.size w w') => (hb.block p (lt_row hk)).trans hk)
  have B0 := Lib.hid (fun (w' : World) (hw : w'.heap[p]? = some (.cells (bytesArr (keyF (kbyte k)) 432) 87 (0, 0))) => blockR_any k (fun _ => 0#8) p w' hw)
  have B1 := Lib.hid (fun (w' : World) (hw : w'.heap[p]? = some (.cells (bytesArr (keyF (kbyte k)) 432) 87 (0, 0))) => blockR_any k (ctrN f 1#8) p w' hw)
  have HK := Lib.hid hk
  clear hk
  have hbn : blocksOf n ≤ 1000000000000 := by unfold blocksOf; omega
  have hbm : blocksOf m ≤ 1000000000000 := by unfold blocksOf; omega
  have SU := Lib.hid (fun w' => sumR_any (turned sbox (sched k) (W4.of (fun _ => 0#8))).byte (sealT g n u m) (blocksOf n + blocksOf m + 1) w' (by omega))
  have XO := Lib.hid (fun w' => xorR_any (sumK (W2.of (turned sbox (sched k) (W4.of (fun _ => 0#8))).byte) ⟨0#64, 0#64⟩ (sealT g n u m) (blocksOf n + blocksOf m + 1)).byte (turned sbox (sched k) (W4.of (ctrN f 1#8))).byte 16 16 w' (Nat.le_refl _) (by omega))
  have ef : strOf (fun i => (sumK (W2.of (turned sbox (sched k) (W4.of (fun _ => 0#8))).byte) ⟨0#64, 0#64⟩ (sealT g n u m) (blocksOf n + blocksOf m + 1)).byte i ^^^ (turned sbox (sched k) (W4.of (ctrN f 1#8))).byte i) 16 = strOf (tagW (sched k) (hOf (sched k)) f g n u m).byte 16 := by
    unfold strOf strL
    congr 2
    refine List.map_congr_left (fun i hi => ?_)
    rw [tagW, byte_xor _ _ _ (List.mem_range.1 hi), w2_byte_of _ _ (List.mem_range.1 hi), sealT_sum]
    rfl
  rw [ef] at XO
  have WG := Lib.hid (fun w' => wholeR_any g n w' (by omega))
  have WU := Lib.hid (fun w' => wholeR_any u m w' (by omega))
  have CG := Lib.hid (fun w' => countS_any g n w' (by omega))
  have CU := Lib.hid (fun w' => countS_any u m w' (by omega))
  have et := sealT_text g n u m
  have z1 := strOf_size (padF g n) (16 * blocksOf n)
  have z2 := strOf_size (padF u m) (16 * blocksOf m)
  have z3 := strOf_size (cntB n) 8
  have z4 := strOf_size (cntB m) 8
  have z5 := strOf_size f 12
  have ec := ctr_text f 1#8 ⟨#[0, 0, 0, 1]⟩ (by decide)
  generalize (sumK (W2.of (turned sbox (sched k) (W4.of (fun _ => 0#8))).byte) ⟨0#64, 0#64⟩ (sealT g n u m) (blocksOf n + blocksOf m + 1)) = SS at *
  generalize strOf (tagW (sched k) (hOf (sched k)) f g n u m).byte 16 = TT at *
  generalize strOf (sealT g n u m) (16 * (blocksOf n + blocksOf m + 1)) = JT at *
  generalize strOf SS.byte 16 = ST at *
  generalize strOf (turned sbox (sched k) (W4.of (fun _ => 0#8))).byte 16 = HT at *
  generalize strOf (turned sbox (sched k) (W4.of (ctrN f 1#8))).byte 16 = MT at *
  generalize strOf (padF g n) (16 * blocksOf n) = T1 at *
  generalize strOf (padF u m) (16 * blocksOf m) = T2 at *
  generalize strOf (cntB n) 8 = T3 at *
  generalize strOf (cntB m) 8 = T4 at *
  generalize strOf (ctrN f 1#8) 16 = CT at *
  have ZC := Lib.hid (fun (w' : World) (q : Nat) (hq : w'.heap[q]? = some (.cells (bytesArr (fun _ => 0#8) 16) 5 (0, 0))) => conv_str (fun _ => 0#8) q 0 16 16 w' (fun i hi => by rw [cell_of_row _ _ _ _ _ _ hq, Nat.zero_add]; exact bytesArr_get _ _ _ hi))
  generalize strOf (fun _ => 0#8) 16 = ZT at *
  generalize strOf f 12 = FT at *
  generalize strOf g n = GT at *
  generalize strOf u m = UT at *
  clear ef
  obtain ⟨b1, hb1⟩ : ∃ b1, blocksOf n = b1 := ⟨_, rfl⟩
  obtain ⟨b2, hb2⟩ : ∃ b2, blocksOf m = b2 := ⟨_, rfl⟩
  rw [hb1] at hbn z1
  rw [hb2] at hbm z2
  clear hb1 hb2
  have s12 : (T1 ++ T2).size = 16 * b1 + 16 * b2 := by rw [ByteArray.size_append, z1, z2]
  have s123 : (T1 ++ T2 ++ T3).size = 16 * b1 + 16 * b2 + 8 := by rw [ByteArray.size_append, s12, z3]
  have q1 : ¬ 9223372036854775807 < 16 * b1 + 16 * b2 := by omega
  have q2 : ¬ 9223372036854775807 < 16 * b1 + 16 * b2 + 8 := by omega
  have q3 : ¬ 9223372036854775807 < 16 * b1 + 16 * b2 + 8 + 8 := by omega
  go_enter Try.func28, Try.ntmps28
  have mk := run_make16
  have zc := ZC.out (w.alloc (.cells (bytesArr (fun _ => 0#8) 16) 5)) w.heap.size (heap_alloc_last _ _)
  go_wp2_with fail
  clear mk zc ZC
  have hb0 : Below w.heap.size w (w.alloc (.cells (bytesArr (fun _ => 0#8) 16) 5)) := (Below.refl _ _).alloc (Nat.le_refl _) _
  generalize World.alloc _ _ = wa at *
  with_reducible refine (B0.out wa (KP.out wa hb0)).mono ?_
  rintro e w1 ⟨rfl, hb1⟩
  have H1 := Lib.hid (hb0.trans (hb1.mono hb0.size))
  clear hb0 hb1
  have HB0 := H1
  clear H1
  go_wp2_with fail
  with_reducible refine (WG.out _).mono ?_
  rintro e w' ⟨rfl, rfl⟩
  go_wp2_with fail
  with_reducible refine (WU.out _).mono ?_
  rintro e w' ⟨rfl, rfl⟩
  go_wp2_with fail
  with_reducible refine (CG.out _).mono ?_
  rintro e w4 ⟨rfl, hb⟩
  have HB1 := Lib.hid (HB0.out.trans (hb.mono HB0.out.size))
  clear hb HB0
  have HB0 := HB1
  clear HB1
  go_wp2_with fail
  with_reducible refine (CU.out _).mono ?_
  rintro e w5 ⟨rfl, hb⟩
  have HB1 := Lib.hid (HB0.out.trans (hb.mono HB0.out.size))
  clear hb HB0
  have HB0 := HB1
  clear HB1
  go_wp2_with fail
  with_reducible refine (SU.out _).mono ?_
  rintro e w6 ⟨rfl, hb⟩
  have HB1 := Lib.hid (HB0.out.trans (hb.mono HB0.out.size))
  clear hb HB0
  have HB0 := HB1
  clear HB1
  go_wp2_with fail
  with_reducible refine (B1.out _ (KP.out _ HB0.out)).mono ?_
  rintro e w7 ⟨rfl, hb⟩
  have HB1 := Lib.hid (HB0.out.trans (hb.mono HB0.out.size))
  clear hb HB0
  have HB0 := HB1
  clear HB1
  go_wp2_with fail
  with_reducible refine (XO.out _).mono ?_
  rintro e w8 ⟨rfl, hb⟩
  have HB1 := Lib.hid (HB0.out.trans (hb.mono HB0.out.size))
  clear hb HB0
  have HB0 := HB1
  clear HB1
  go_wp2_with fail
  go_ret
  exact ⟨rfl, HB0.out⟩
end Go.Proofs.Ytoocglckhphepaa
namespace Go.Proofs.Ytoocglckhphepaa
open Go Go.RowKit Go.BigFrame
set_option maxRecDepth 100000
set_option linter.unusedSimpArgs false
set_option maxHeartbeats 4000000 in
theorem sealD_bad (S1 S2 S3 S4 : ByteArray) (n : Nat) (hs : S2.size = n) (hn : n ≠ 12) (w : World) :
    Calls Try.prog 13 #[.string S1, .string S2, .string S3, .string S4] w fun e w' => e = .returned (.tuple #[.string ⟨#[]⟩, .int .i64 1]) ∧ w = w' := by
  have hnI : ¬ (n : Int) = 12 := by omega
  have hnI' : ((n : Int) == 12) = false := beq_eq_false_iff_ne.2 hnI
  go_enter Try.func13, Try.ntmps13
  go_wp2_with fail
  go_ret2
  exact ⟨rfl, rfl⟩
set_option maxHeartbeats 8000000 in
theorem sealD_ok (k f g xs : Nat → BitVec 8) (n m : Nat) (w : World) (hn : n ≤ 10000000000000) (hm : m ≤ 1000000000000) :
    Calls Try.prog 13 #[.string (strOf k 16), .string (strOf f 12), .string (strOf g n), .string (strOf xs m)] w fun e w' => e = .returned (.tuple #[.string (strOf (sealF (sched k) (hOf (sched k)) f g n xs m) (m + 16)), .int .i64 0]) ∧ Below w.heap.size w w' := by
  have RK := Lib.hid (fun w' => readyR_any k w')
  have ST := fun (w' : World) (p : Nat) (hk : w'.heap[p]? = some (.cells (bytesArr (keyF (kbyte k)) 432) 87 (0, 0))) => streamR_any k (ctrN f 2#8) xs m 0 p w' hk (by omega) (by omega)
  have eh : (fun j => xs j ^^^ strm (sched k) (W4.of (ctrN f 2#8)) (0 + j)) = hid (sched k) f xs := by
    funext j
    unfold hid
    rw [Nat.zero_add]
  rw [eh] at ST
  simp only [show ((0 : Nat) : Int) = 0 from rfl] at ST
  have SL := Lib.hid (fun (w' : World) (p : Nat) (hk : w'.heap[p]? = some (.cells (bytesArr (keyF (kbyte k)) 432) 87 (0, 0))) => sealR_any k f g (hid (sched k) f xs) n m p w' hk hn (by omega))
  have ec := ctr_text f 2#8 ⟨#[0, 0, 0, 2]⟩ (by decide)
  have ej := joined (hid (sched k) f xs) (tagW (sched k) (hOf (sched k)) f g n (hid (sched k) f xs) m).byte m 16
  rw [show joinb (hid (sched k) f xs) m (tagW (sched k) (hOf (sched k)) f g n (hid (sched k) f xs) m).byte = sealF (sched k) (hOf (sched k)) f g n xs m from rfl] at ej
  have z1 := strOf_size f 12
  have z2 := strOf_size (hid (sched k) f xs) m
  have z3 := strOf_size (tagW (sched k) (hOf (sched k)) f g n (hid (sched k) f xs) m).byte 16
  generalize strOf (sealF (sched k) (hOf (sched k)) f g n xs m) (m + 16) = OUT at *
  generalize strOf (tagW (sched k) (hOf (sched k)) f g n (hid (sched k) f xs) m).byte 16 = TG at *
  generalize strOf (hid (sched k) f xs) m = HX at *
  generalize strOf (ctrN f 2#8) 16 = CT at *
  generalize strOf f 12 = FT at *
  generalize strOf g n = GT at *
  generalize strOf xs m = XT at *
  generalize strOf k 16 = KT at *
  have ST := Lib.hid ST
  have q1 : ¬ 9223372036854775807 < m + 16 := by omega
  clear eh
  go_enter Try.func13, Try.ntmps13
  go_wp2_with fail
  with_reducible refine (RK.out _).mono ?_
  rintro e w1 ⟨p, rfl, my⟩
  have HK := Lib.hid (fun (w' : World) (hb : Below w1.heap.size w1 w') => (hb.block p (lt_row my.row)).trans my.row)
  have HB := Lib.hid my.below
  clear my
  go_wp2_with fail
  with_reducible refine (ST.out _ p (HK.out _ (Below.refl _ _))).mono ?_
  rintro e w2 ⟨rfl, hb2⟩
  have H2 := Lib.hid hb2
  clear hb2
  go_wp2_with fail
  with_reducible refine (SL.out _ p (HK.out _ H2.out)).mono ?_
  rintro e w3 ⟨rfl, hb3⟩
  have H3 := Lib.hid (HB.out.trans ((H2.out.trans (hb3.mono H2.out.size)).mono HB.out.size))
  clear hb3
  go_wp2_with fail
  go_ret2
  exact ⟨rfl, H3.out⟩
set_option maxHeartbeats 4000000 in
theorem openD_bad (S1 S2 S3 S4 : ByteArray) (n : Nat) (hs : S2.size = n) (hn : n ≠ 12) (w : World) :
    Calls Try.prog 14 #[.string S1, .string S2, .string S3, .string S4] w fun e w' => e = .returned (.tuple #[.string ⟨#[]⟩, .int .i64 1]) ∧ w = w' := by
  have hnI : ¬ (n : Int) = 12 := by omega
  have hnI' : ((n : Int) == 12) = false := beq_eq_false_iff_ne.2 hnI
  go_enter Try.func14, Try.ntmps14
  go_wp2_with fail
  go_ret2
  exact ⟨rfl, rfl⟩
set_option maxHeartbeats 4000000 in
theorem openD_short (S1 S2 S3 S4 : ByteArray) (m : Nat) (hs : S2.size = 12) (hm : S4.size = m) (hl : m < 16) (w : World) :
    Calls Try.prog 14 #[.string S1, .string S2, .string S3, .string S4] w fun e w' => e = .returned (.tuple #[.string ⟨#[]⟩, .int .i64 3]) ∧ w = w' := by
  have hnI : (m : Int) < 16 := by omega
  go_enter Try.func14, Try.ntmps14
  go_wp2_with fail
  go_ret2
  exact ⟨rfl, rfl⟩
set_option maxHeartbeats 8000000 in
theorem openD_ok (k f g xs : Nat → BitVec 8) (n m : Nat) (w : World) (hn : n ≤ 10000000000000) (hm : m ≤ 1000000000000) :
    Calls Try.prog 14 #[.string (strOf k 16), .string (strOf f 12), .string (strOf g n), .string (strOf xs (m + 16))] w fun e w' => Below w.heap.size w w' ∧
      ((openE (sched k) (hOf (sched k)) f g n xs m = true ∧ e = .returned (.tuple #[.string (strOf (hid (sched k) f xs) m), .int .i64 0])) ∨ (openE (sched k) (hOf (sched k)) f g n xs m = false ∧ e = .returned (.tuple #[.string ⟨#[]⟩, .int .i64 4]))) := by
  have RK := Lib.hid (fun w' => readyR_any k w')
  have ST := fun (w' : World) (p : Nat) (hk : w'.heap[p]? = some (.cells (bytesArr (keyF (kbyte k)) 432) 87 (0, 0))) => streamR_any k (ctrN f 2#8) xs m 0 p w' hk (by omega) (by omega)
  have eh : (fun j => xs j ^^^ strm (sched k) (W4.of (ctrN f 2#8)) (0 + j)) = hid (sched k) f xs := by
    funext j
    unfold hid
    rw [Nat.zero_add]
  rw [eh] at ST
  simp only [show ((0 : Nat) : Int) = 0 from rfl] at ST
  have SL := Lib.hid (fun (w' : World) (p : Nat) (hk : w'.heap[p]? = some (.cells (bytesArr (keyF (kbyte k)) 432) 87 (0, 0))) => sealR_any k f g xs n m p w' hk hn (by omega))
  have ec := ctr_text f 2#8 ⟨#[0, 0, 0, 2]⟩ (by decide)
  have z1 := strOf_size f 12
  have z2 := strOf_size xs (m + 16)
  have x1 : (strOf xs (m + 16)).extract 0 m = strOf xs m := by
    rw [str_cut xs 0 m (m + 16) (Nat.zero_le _) (by omega)]
    congr 1
    funext i
    rw [Nat.zero_add]
  have x2 : (strOf xs (m + 16)).extract m (m + 16) = strOf (fun i => xs (m + i)) 16 := by
    rw [str_cut xs m (m + 16) (m + 16) (by omega) (Nat.le_refl _)]
    congr 1
    omega
  have s1 := strOf_allEq (tagW (sched k) (hOf (sched k)) f g n xs m).byte (fun i => xs (m + i)) 16
  have s2 := strOf_list_allEq (tagW (sched k) (hOf (sched k)) f g n xs m).byte (fun i => xs (m + i)) 16
  have eE : openE (sched k) (hOf (sched k)) f g n xs m = allEq (tagW (sched k) (hOf (sched k)) f g n xs m).byte (fun i => xs (m + i)) 16 := by
    rw [Bool.eq_iff_iff, allEq_iff]
    unfold openE
    rw [beq_iff_eq, accD_zero]
  rw [eE]
  generalize allEq (tagW (sched k) (hOf (sched k)) f g n xs m).byte (fun i => xs (m + i)) 16 = E at *
  generalize strOf (tagW (sched k) (hOf (sched k)) f g n xs m).byte 16 = TG at *
  generalize strOf (fun i => xs (m + i)) 16 = SH at *
  generalize strOf (hid (sched k) f xs) m = HX at *
  generalize strOf (ctrN f 2#8) 16 = CT at *
  generalize strOf f 12 = FT at *
  generalize strOf g n = GT at *
  generalize strOf xs m = XM at *
  generalize strOf xs (m + 16) = XT at *
  generalize strOf k 16 = KT at *
  have ST := Lib.hid ST
  have hnI : ¬ ((m : Int) + 16 < 16) := by omega
  have e1 : IntKind.i64.wrap (m : Int) = (m : Int) := by rw [IntKind.wrap_i64]; omega
  have e2 : (m : Int) + 16 - 16 = (m : Int) := by omega
  clear eh eE
  go_enter Try.func14, Try.ntmps14
  go_wp2_with fail
  with_reducible refine (RK.out _).mono ?_
  rintro e w1 ⟨p, rfl, my⟩
  have HK := Lib.hid (fun (w' : World) (hb : Below w1.heap.size w1 w') => (hb.block p (lt_row my.row)).trans my.row)
  have HB := Lib.hid my.below
  clear my
  go_upto_region 7 with (fail)
  refine region_class1 10 (fun w' => Below w1.heap.size w1 w') mixedOrders (by kernel_rfl) (Below.refl _ _).drew rfl ?_
  refine wpQuiet_take (by rfl) (fun K hK => ⟨.pointer (some ⟨p, 0, none⟩), fun w2' hw2 => ?_, hK _ ?_⟩)
  · clear hw2; go_simp
  clear hK K
  simp only [Act.put, List.setIfInBounds_toArray, List.set_cons_succ, List.set_cons_zero]
  refine wpQuiet_take (by rfl) (fun K hK => ⟨.string FT, fun w2' hw2 => ?_, hK _ ?_⟩)
  · clear hw2; go_simp
  clear hK K
  simp only [Act.put, List.setIfInBounds_toArray, List.set_cons_succ, List.set_cons_zero]
  refine wpQuiet_take (by rfl) (fun K hK => ⟨.string GT, fun w2' hw2 => ?_, hK _ ?_⟩)
  · clear hw2; go_simp
  clear hK K
  simp only [Act.put, List.setIfInBounds_toArray, List.set_cons_succ, List.set_cons_zero]
  refine wpQuiet_take (by rfl) (fun K hK => ⟨.string XM, fun w2' hw2 => ?_, hK _ ?_⟩)
  · clear hw2; go_simp
  clear hK K
  simp only [Act.put, List.setIfInBounds_toArray, List.set_cons_succ, List.set_cons_zero]
  refine wpQuiet_take (by rfl) (fun K hK => ⟨.string TG, fun w2' hw2 => ?_, hK _ ?_⟩)
  · go_simp
    go_at_call 28
    with_reducible refine (SL.out w2' p (HK.out _ hw2)).mono ?_
    rintro e w5 ⟨rfl, hb5⟩
    exact ⟨rfl, hw2.trans (hb5.mono hw2.size)⟩
  clear hK K
  simp only [Act.put, List.setIfInBounds_toArray, List.set_cons_succ, List.set_cons_zero]
  refine wpQuiet_take (by rfl) (fun K hK => ⟨.string XT, fun w2' hw2 => ?_, hK _ ?_⟩)
  · clear hw2; go_simp
  clear hK K
  simp only [Act.put, List.setIfInBounds_toArray, List.set_cons_succ, List.set_cons_zero]
  refine wpQuiet_take (by rfl) (fun K hK => ⟨.string XT, fun w2' hw2 => ?_, hK _ ?_⟩)
  · clear hw2; go_simp
  clear hK K
  simp only [Act.put, List.setIfInBounds_toArray, List.set_cons_succ, List.set_cons_zero]
  refine wpQuiet_take (by rfl) (fun K hK => ⟨.int .i64 ((m : Int) + 16), fun w2' hw2 => ?_, hK _ ?_⟩)
  · clear hw2; go_simp
  clear hK K
  simp only [Act.put, List.setIfInBounds_toArray, List.set_cons_succ, List.set_cons_zero]
  refine wpQuiet_take (by rfl) (fun K hK => ⟨.int .i64 (m : Int), fun w2' hw2 => ?_, hK _ ?_⟩)
  · clear hw2; go_simp
  clear hK K
  simp only [Act.put, List.setIfInBounds_toArray, List.set_cons_succ, List.set_cons_zero]
  refine wpQuiet_take (by rfl) (fun K hK => ⟨.string SH, fun w2' hw2 => ?_, hK _ ?_⟩)
  · have hle : (m : Int) ≤ (m : Int) + 16 := by omega
    clear hw2; go_simp
  clear hK K
  simp only [Act.put, List.setIfInBounds_toArray, List.set_cons_succ, List.set_cons_zero]
  refine wpQuiet_take0 ?_
  intro w6 hb6
  have H6 := Lib.hid hb6
  clear hb6
  cases E with
  | false =>
    go_wp2_with fail
    go_ret2
    exact ⟨HB.out.trans (H6.out.mono HB.out.size), rfl⟩
  | true =>
    go_wp2_with fail
    with_reducible refine (ST.out _ p (HK.out _ H6.out)).mono ?_
    rintro e w2 ⟨rfl, hb2⟩
    have H2 := Lib.hid (HB.out.trans ((H6.out.trans (hb2.mono H6.out.size)).mono HB.out.size))
    clear hb2
    go_wp2_with fail
    go_ret2
    exact ⟨H2.out, rfl⟩
end Go.Proofs.Ytoocglckhphepaa
