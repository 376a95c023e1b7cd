/-
  sha: Mac.
-/
import Derived.Test.YtebhhonmpoeliaaDoorShaI
namespace Go.Proofs.YtebhhonmpoeliaaDoor
open Go Go.RowKit Go.BigFrame
set_option linter.unusedSimpArgs false
set_option linter.unusedVariables false
/-- Each byte put together with one. -/
def xorB (K : Nat → BitVec 8) (x : BitVec 8) (i : Nat) : BitVec 8 := K i ^^^ x
set_option maxHeartbeats 4000000 in
set_option maxRecDepth 100000 in
theorem keyed_any (K : Nat → BitVec 8) (x : BitVec 8) (w : World) (T : TabK w) : Calls Tryd.prog 23 #[.agg (bytesA K 64), .int .u8 (n8 x)] w
    fun e w' => ∃ b, e = .returned (.pointer (some ⟨b, 0, none⟩)) ∧ w.heap.size ≤ b ∧ HashSt w' b (xorB K x) 64 ∧ Below w.heap.size w w' := by
  have TK := Lib.hid T
  have TL := T.lt
  clear T
  go_enter Tryd.func23, Tryd.ntmps23
  go_wp2_with fail
  obtain ⟨wa, hwa⟩ : ∃ wa, w.alloc (.cells (bytesA K 64) 48) = wa := ⟨_, rfl⟩
  have K0 : wa.heap[w.heap.size]? = some (.cells (bytesA K 64) 48 (0, 0)) := by rw [← hwa]; exact heap_alloc_last _ _
  have hb : Below w.heap.size w wa := by rw [← hwa]; exact (Below.refl _ _).alloc (Nat.le_refl _) _
  have hza : wa.heap.size = w.heap.size + 1 := by rw [← hwa]; exact alloc_size _ _
  simp only [hwa]
  clear hwa
  have Ta := Lib.hid (TK.out.later hb)
  obtain ⟨q, hq⟩ : ∃ q, w.heap.size = q := ⟨_, rfl⟩
  rw [hq] at K0 hb hza TL
  simp only [hq]
  have HQ := Lib.hid hq
  have KA := Lib.hid K0
  have HB := Lib.hid hb
  clear hq K0 hb TK
  go_loopw [7] (fun s wr => ∃ i : Nat, i ≤ 64 ∧ s = .int .i64 (i : Int) ∧ RowSet wa q 48 (bytesA (fun j => if j < i then xorB K x j else K j) 64) wr) (fun s _ => 64 - (intOf s).toNat)
  case atStart => exact ⟨0, by omega, rfl, by rw [bytesA_congr (g := K) (fun j _ => by rw [if_neg (by omega)])]; exact ⟨KA.out, fun _ _ => rfl, rfl, fun _ _ => Below.refl _ _⟩⟩
  case round =>
    obtain ⟨i, hi, rfl, rs⟩ := hrel
    have RS := Lib.hid rs
    clear rs
    by_cases hlt : i < 64
    · have hlI : (i : Int) < 64 := by omega
      have kr : wr.cell? ⟨q, i, none⟩ = some (.int .u8 (n8 (K i))) := by rw [row_range RS.out.row hlt, if_neg (by omega)]
      have fz : wr.frozen? ⟨q, i, none⟩ = false := frozen_of_row _ _ _ _ _ RS.out.row
      have QS := Lib.hid (rowSet_cell wr q i 48 _ (.int .u8 (n8 (K i ^^^ x))) RS.out.row)
      go_wp2_with fail
      go_roundw
      case rel =>
        refine ⟨i + 1, by omega, by go_num, ?_, fun k hk => (QS.out.other k hk).trans (RS.out.other k hk), QS.out.size.trans RS.out.size, fun b hb => (RS.out.below b hb).trans (QS.out.below b hb)⟩
        have h := QS.out.row
        rw [bytesA_set, bytesA_congr (g := fun j => if j < i + 1 then xorB K x j else K j) (fun j _ => by
          by_cases e : j = i
          · subst e; rw [if_pos rfl, if_pos (by omega)]; rfl
          · rw [if_neg e]
            by_cases e2 : j < i
            · rw [if_pos e2, if_pos (by omega)]
            · rw [if_neg e2, if_neg (by omega)])] at h
        exact h
      case measure => (simp [intOf] <;> omega)
    · obtain rfl : i = 64 := by omega
      clear hlt hi
      have rw1 : wr.heap[q]? = some (.cells (bytesA (xorB K x) 64) 48 (0, 0)) := by
        have h := RS.out.row
        rw [bytesA_congr (g := xorB K x) (fun j hj => by rw [if_pos hj])] at h
        exact h
      have R1 := Lib.hid rw1
      have B1 := Lib.hid (HB.out.trans (RS.out.below _ (Nat.le_refl _)))
      have T1 := Lib.hid (Ta.out.chg RS.out.chg (by omega))
      have hzr : wr.heap.size = q + 1 := by rw [RS.out.size, hza]
      clear rw1 RS Ta HB KA hza
      go_wp2_with fail
      with_reducible refine (new_any wr).mono ?_
      rintro e w2 ⟨rfl, hr2, hb2, hz2⟩
      rw [hzr] at hr2 hz2 ⊢
      have R2 := (hb2.block q (lt_row R1.out)).trans R1.out
      have hall := fun w' => run_arr64_all w' q 0
      have WR := Lib.hid (write_any (q + 1) 0 64 64 (xorB K x) (xorB K x) (some ⟨q, 0, none⟩) w2 (T1.out.later hb2) (by omega) (hashSt_zero _ hr2) (row_bytesIn R2 64 (Nat.le_refl _) (by unfold maxLen; omega)) (Nat.le_refl _) (by unfold maxLen; omega)
        (fun _ y hy => by injection hy with hy; subst hy; show q ≠ _; omega) (by omega))
      have B2 := Lib.hid (B1.out.trans (hb2.mono (by omega)))
      have hz2' := Lib.hid hz2
      clear hr2 hb2 hz2 R2 R1 B1 T1
      go_wp2_with fail
      with_reducible refine WR.out.mono ?_
      rintro e w3 ⟨rfl, st3, ch3⟩
      rw [joinb_zero, Nat.zero_add] at st3
      have ST := Lib.hid st3
      have CH := Lib.hid ch3
      clear st3 ch3 WR
      go_wp2_with fail
      go_ret
      exact ⟨q + 1, rfl, by rw [HQ.out]; omega, ST.out, by rw [HQ.out]; exact B2.out.trans (CH.out.below (by omega) (by have := hz2'.out; omega))⟩
/-- The sum by a key's block. -/
def macB (K p : Nat → BitVec 8) (n : Nat) : Nat → BitVec 8 := sumS (joinb (xorB K 92#8) 64 (sumS (joinb (xorB K 54#8) 64 p) (64 + n))) 96
set_option maxHeartbeats 4000000 in
set_option maxRecDepth 100000 in
theorem mac_any (m c n d : Nat) (k p : Nat → BitVec 8) (a a' : Option Addr) (w : World) (T : TabK w) (hx : BytesIn w a m k) (hc : m ≤ c) (hcm : c ≤ maxLen) (hsz : m < 576460752303423488)
    (hy : BytesIn w a' n p) (hd : n ≤ d) (hdm : d ≤ maxLen) (hsn : n < 144115188075855872) :
    Calls Tryd.prog 18 #[.slice a m c, .slice a' n d] w fun e w' => e = .returned (.agg (bytesA (macB (keyB k m) p n) 32)) ∧ Below w.heap.size w w' := by
  have HX := Lib.hid hx
  have HAP' := Lib.hid (bytesIn_lt hy)
  have HY := Lib.hid hy
  have TK := Lib.hid T
  have TL := T.lt
  clear hx hy T
  have e54 : n8 54#8 = 54 := by unfold n8; rfl
  have e92 : n8 92#8 = 92 := by unfold n8; rfl
  have E54 := Lib.hid e54
  have E92 := Lib.hid e92
  clear e54 e92
  go_enter Tryd.func18, Tryd.ntmps18
  go_wp2_with (refine wpList_alloc_row (o := ⟨some 4, .alloc 42, _, _, _, _⟩) rfl 42 rfl _ zero_32 ?_)
  obtain ⟨wa, hwa⟩ : ∃ wa, w.alloc (.cells (bytesA (fun _ => 0#8) 32) 42) = wa := ⟨_, rfl⟩
  have K0 : wa.heap[w.heap.size]? = some (.cells (bytesA (fun _ => 0#8) 32) 42 (0, 0)) := by rw [← hwa]; exact heap_alloc_last _ _
  have hb : Below w.heap.size w wa := by rw [← hwa]; exact (Below.refl _ _).alloc (Nat.le_refl _) _
  have hza : wa.heap.size = w.heap.size + 1 := by rw [← hwa]; exact alloc_size _ _
  simp only [Act.put, List.setIfInBounds_toArray, List.set_cons_succ, List.set_cons_zero, hwa]
  clear hwa
  have TKa := TK.out.later hb
  have Xa := bytesIn_ext HX.out hb
  have KB := keyBlock_any m c k a wa TKa Xa hc hcm hsz
  have Ya := bytesIn_ext HY.out hb
  obtain ⟨q, hq⟩ : ∃ q, w.heap.size = q := ⟨_, rfl⟩
  rw [hq] at K0 hb hza TL HAP'
  simp only [hq]
  have HQ := Lib.hid hq
  have KBH := Lib.hid KB
  have KA := Lib.hid K0
  have HB := Lib.hid hb
  have TA := Lib.hid TKa
  have YA := Lib.hid Ya
  clear hq K0 hb TK HX HY KB TKa Xa Ya
  with_reducible refine KBH.out.mono ?_
  rintro e w1 ⟨rfl, hb1⟩
  have hal : Below w1.heap.size w1 (w1.alloc (.cells (bytesA (keyB k m) 64) 48)) := (Below.refl _ _).alloc (Nat.le_refl _) _
  have hal2 : (w1.alloc (.cells (bytesA (keyB k m) 64) 48)).heap[w1.heap.size]? = some (.cells (bytesA (keyB k m) 64) 48 (0, 0)) := heap_alloc_last _ _
  have hz1 := hb1.size
  go_upto_region 2 with (first
    | (refine wpList_alloc_row (o := ⟨some 5, .alloc 48, _, _, _, _⟩) rfl 48 rfl _ zero_64 ?_)
    | (refine wpList_store_new (o := ⟨none, .store 48 (.tmp 5) (.tmp 10), _, _, _, _⟩) rfl 48 _ _ rfl (bytesA (fun _ => 0#8) 64) (bytesA (keyB k m) 64) _ rfl rfl rfl (by rw [bytesA_size]; kernel_rfl) (by rw [bytesA_size, bytesA_size]) (bytesA_one _ _) ?_))
  obtain ⟨w2, hw2⟩ : ∃ w2, w1.alloc (.cells (bytesA (keyB k m) 64) 48) = w2 := ⟨_, rfl⟩
  rw [hw2] at hal hal2
  have hz2 : w2.heap.size = w1.heap.size + 1 := by rw [← hw2]; exact alloc_size _ _
  simp only [hw2]
  obtain ⟨s, hs⟩ : ∃ s, w1.heap.size = s := ⟨_, rfl⟩
  have E2 : Below wa.heap.size wa w2 := hb1.trans (hal.mono hb1.size)
  rw [hs] at hal2 hz2 hz1
  simp only [hs]
  have S2 := Lib.hid hal2
  have KA2 := Lib.hid ((E2.block q (lt_row KA.out)).trans KA.out)
  have HB2 := Lib.hid (HB.out.trans (E2.mono (by omega)))
  have TA2 := Lib.hid (TA.out.later E2)
  have YA2 := Lib.hid (bytesIn_ext YA.out E2)
  have hqs : q < s := by omega
  clear hal hal2 hw2 hs hb1 KA HB TA YA E2 KBH hz1 hza
  clear w1 wa
  have k1 := keyed_any (keyB k m) 54#8 w2 TA2.out
  rw [E54.out] at k1
  have K1 := Lib.hid k1
  clear k1 E54
  go_wp2_with (refine wpList_load_row rfl 48 _ rfl s rfl _ _ (0, 0) _ S2.out Tryd.underlying48 rfl (by rw [bytesA_size]; kernel_rfl) ?_)
  with_reducible refine K1.out.mono ?_
  rintro e w3 ⟨b, rfl, hb3, st3, e3⟩
  have S3 := Lib.hid ((e3.block s (lt_row S2.out)).trans S2.out)
  have KA3 := Lib.hid ((e3.block q (lt_row KA2.out)).trans KA2.out)
  have HB3 := Lib.hid (HB2.out.trans (e3.mono (by omega)))
  have TA3 := TA2.out.later e3
  have YA3 := bytesIn_ext YA2.out e3
  have W3 := Lib.hid (write_any b 64 n d (xorB (keyB k m) 54#8) p a' w3 TA3 (by omega) st3 YA3 hd hdm (fun hm x hx => by have := HAP'.out hm x hx; omega) (by omega))
  have hsb : s < b := by omega
  have hsz3 : s < w3.heap.size := lt_row S3.out
  have T3 := Lib.hid TA3
  clear K1 S2 KA2 HB2 TA2 YA2 TA3 YA3 st3 e3 hb3 hz2 w2
  go_wp2_with fail
  with_reducible refine W3.out.mono ?_
  rintro e w4 ⟨rfl, st4, ch4⟩
  have S4 := Lib.hid (ch4.row (k := s) (by omega) S3.out)
  have KA4 := Lib.hid (ch4.row (k := q) (by omega) KA3.out)
  have HB4 := Lib.hid (HB3.out.trans (ch4.below (by omega) (by omega)))
  have T4 := Lib.hid (T3.out.chg ch4 (by omega))
  have SM := Lib.hid (sum_any (some ⟨b, 0, none⟩) (64 + n) _ w4 T4.out (.inr ⟨b, rfl, st4⟩) (by omega))
  clear W3 S3 KA3 HB3 T3 st4 ch4 hsz3 w3
  go_wp2_with fail
  with_reducible refine SM.out.mono ?_
  rintro e w5 ⟨rfl, hb5⟩
  obtain ⟨inn, hin⟩ : ∃ inn, sumS (joinb (xorB (keyB k m) 54#8) 64 p) (64 + n) = inn := ⟨_, rfl⟩
  have HIN := Lib.hid hin
  have hin' : sumB kW startW (joinb (xorB (keyB k m) 54#8) 64 p) (64 + n) = inn := hin
  simp only [hin']
  clear hin hin' SM
  have hal : Below w5.heap.size w5 (w5.alloc (.cells (bytesA inn 32) 42)) := (Below.refl _ _).alloc (Nat.le_refl _) _
  have hal2 : (w5.alloc (.cells (bytesA inn 32) 42)).heap[w5.heap.size]? = some (.cells (bytesA inn 32) 42 (0, 0)) := heap_alloc_last _ _
  have hz5 := hb5.size
  go_upto_region 5 with (first
    | (refine wpList_alloc_row (o := ⟨some 7, .alloc 42, _, _, _, _⟩) rfl 42 rfl _ zero_32 ?_)
    | (refine wpList_store_new (o := ⟨none, .store 42 (.tmp 7) (.tmp 17), _, _, _, _⟩) rfl 42 _ _ rfl (bytesA (fun _ => 0#8) 32) (bytesA inn 32) _ rfl rfl rfl (by rw [bytesA_size]; kernel_rfl) (by rw [bytesA_size, bytesA_size]) (bytesA_one _ _) ?_))
  obtain ⟨w6, hw6⟩ : ∃ w6, w5.alloc (.cells (bytesA inn 32) 42) = w6 := ⟨_, rfl⟩
  rw [hw6] at hal hal2
  have hz6 : w6.heap.size = w5.heap.size + 1 := by rw [← hw6]; exact alloc_size _ _
  simp only [hw6]
  obtain ⟨u, hu⟩ : ∃ u, w5.heap.size = u := ⟨_, rfl⟩
  have E6 : Below w4.heap.size w4 w6 := hb5.trans (hal.mono hb5.size)
  have hsz4 := lt_row S4.out
  rw [hu] at hal2 hz6 hz5
  simp only [hu]
  have U6 := Lib.hid hal2
  have S6 := Lib.hid ((E6.block s hsz4).trans S4.out)
  have KA6 := Lib.hid ((E6.block q (lt_row KA4.out)).trans KA4.out)
  have HB6 := Lib.hid (HB4.out.trans (E6.mono (by have := lt_row KA4.out; omega)))
  have T6 := Lib.hid (T4.out.later E6)
  have hsu : s < u := by omega
  clear hal hal2 hw6 hu hb5 E6 S4 KA4 HB4 T4 hz5 hsz4
  clear w5 w4
  have k2 := keyed_any (keyB k m) 92#8 w6 T6.out
  rw [E92.out] at k2
  have K2 := Lib.hid k2
  clear k2 E92
  go_wp2_with (refine wpList_load_row rfl 48 _ rfl s rfl _ _ (0, 0) _ S6.out Tryd.underlying48 rfl (by rw [bytesA_size]; kernel_rfl) ?_)
  with_reducible refine K2.out.mono ?_
  rintro e w7 ⟨b2, rfl, hb7, st7, e7⟩
  have U7 := (e7.block u (lt_row U6.out)).trans U6.out
  have KA7 := Lib.hid ((e7.block q (lt_row KA6.out)).trans KA6.out)
  have HB7 := Lib.hid (HB6.out.trans (e7.mono (by omega)))
  have T7 := T6.out.later e7
  have hall := fun w' => run_arr32_all w' u
  have W7 := Lib.hid (write_any b2 64 32 32 (xorB (keyB k m) 92#8) inn (some ⟨u, 0, none⟩) w7 T7 (by omega) st7 (row_bytesIn U7 32 (Nat.le_refl _) (by unfold maxLen; omega)) (Nat.le_refl _) (by unfold maxLen; omega)
    (fun _ y hy => by injection hy with hy; subst hy; show u ≠ _; omega) (by omega))
  have T7' := Lib.hid T7
  have hqb : q < b2 ∧ q < w7.heap.size := ⟨by omega, by have := lt_row KA7.out; omega⟩
  have hgb : 0 < b2 := by omega
  clear K2 S6 KA6 HB6 T6 st7 e7 hb7 T7 U7 U6 hz6 w6
  go_wp2_with fail
  with_reducible refine W7.out.mono ?_
  rintro e w8 ⟨rfl, st8, ch8⟩
  have KA8 := Lib.hid (ch8.row (k := q) (by omega) KA7.out)
  have HB8 := Lib.hid (HB7.out.trans (ch8.below (by omega) (by omega)))
  have SM := Lib.hid (sum_any (some ⟨b2, 0, none⟩) (64 + 32) _ w8 (T7'.out.chg ch8 hgb) (.inr ⟨b2, rfl, st8⟩) (by omega))
  clear W7 KA7 HB7 T7' st8 ch8 hqb
  go_wp2_with fail
  with_reducible refine SM.out.mono ?_
  rintro e w9 ⟨rfl, hb9⟩
  have K9 := Lib.hid ((hb9.block q (lt_row KA8.out)).trans KA8.out)
  have B9 := Lib.hid (HB8.out.trans (hb9.mono (by have := lt_row KA8.out; omega)))
  obtain ⟨res, hres⟩ : ∃ res, sumB kW startW (joinb (xorB (keyB k m) 92#8) 64 inn) (64 + 32) = res := ⟨_, rfl⟩
  simp only [hres]
  have hfin : macB (keyB k m) p n = res := by unfold macB; rw [HIN.out, ← hres]; rfl
  have HF := Lib.hid hfin
  clear hb9 KA8 HB8 SM hres hfin
  go_wp2_with (refine wpList_store_row rfl 42 _ _ rfl q _ _ (bytesA res 32) rfl rfl K9.out (by rw [bytesA_size, bytesA_size]) (by rw [bytesA_size]; kernel_rfl) (bytesA_one _ _) ?_; intro w10 s10)
  exact ret_row q _ 42 (bytesA res 32) rfl _ rfl s10.row Tryd.underlying42 rfl (by rw [bytesA_size]; kernel_rfl) rfl ⟨by rw [HF.out], by rw [HQ.out]; exact B9.out.trans (s10.below _ (Nat.le_refl _))⟩
end Go.Proofs.YtebhhonmpoeliaaDoor
