/-
  guard: RetryTag, the program's and the document's.
-/
import Derived.Test.YtekgclpmbidphaaDoorMg17
import Derived.Test.YtekgclpmbidphaaDoorMg32
namespace Go.Proofs.YtekgclpmbidphaaDoor
open Go Go.RowKit Go.BigFrame
set_option linter.unusedSimpArgs false
set_option linter.unusedVariables false
set_option maxRecDepth 100000
def rkL : List Nat := [190, 12, 105, 11, 159, 102, 87, 90, 29, 118, 107, 84, 227, 104, 200, 78]
def rnL : List Nat := [70, 21, 153, 211, 93, 99, 43, 242, 35, 152, 37, 187]
theorem rk_str : strOf (tb rkL) 16 = ⟨#[190, 12, 105, 11, 159, 102, 87, 90, 29, 118, 107, 84, 227, 104, 200, 78]⟩ := by kernel_rfl
theorem rn_str : strOf (tb rnL) 12 = ⟨#[70, 21, 153, 211, 93, 99, 43, 242, 35, 152, 37, 187]⟩ := by kernel_rfl
theorem rk_cells : (#[.int .u8 190, .int .u8 12, .int .u8 105, .int .u8 11, .int .u8 159, .int .u8 102, .int .u8 87, .int .u8 90, .int .u8 29, .int .u8 118, .int .u8 107, .int .u8 84, .int .u8 227, .int .u8 104, .int .u8 200, .int .u8 78] : Array Value) = bytesArr (tb rkL) 16 := by
  unfold bytesArr
  simp [List.range, List.range.loop, tb, rkL, n8_nat]
theorem rn_cells : (#[.int .u8 70, .int .u8 21, .int .u8 153, .int .u8 211, .int .u8 93, .int .u8 99, .int .u8 43, .int .u8 242, .int .u8 35, .int .u8 152, .int .u8 37, .int .u8 187] : Array Value) = bytesArr (tb rnL) 12 := by
  unfold bytesArr
  simp [List.range, List.range.loop, tb, rnL, n8_nat]
/-- What is beside: the name's count, the name, the Retry. -/
def besF (d : Nat → BitVec 8) (nd : Nat) (r : Nat → BitVec 8) : Nat → BitVec 8 := joinb (joinb (fun _ => BitVec.ofNat 8 nd) 1 d) (1 + nd) r
def tagF (d : Nat → BitVec 8) (nd : Nat) (r : Nat → BitVec 8) (m : Nat) : Nat → BitVec 8 := sealF (sched (tb rkL)) (hOf (sched (tb rkL))) (tb rnL) (besF d nd r) (1 + nd + m) (fun _ => 0#8) 0
theorem retry_bad (D : ByteArray) (nd : Nat) (hD : D.size = nd) (hd : 20 < nd) (a : Option Addr) (m c : Nat) (w : World) :
    Calls Tryd.prog 17 #[.string D, .slice a m c] w fun e w' => e = .returned (.tuple #[.string ⟨#[]⟩, .int .i64 1]) ∧ w = w' := by
  have h1 : (nd : Int) > 20 := by omega
  go_enter Tryd.func17, Tryd.ntmps17
  go_wp2_with fail
  go_ret2
  exact ⟨rfl, rfl⟩
theorem docRetry_bad (D R : ByteArray) (nd : Nat) (hD : D.size = nd) (hd : 20 < nd) (w : World) :
    Calls Tryd.prog 16 #[.string D, .string R] w fun e w' => e = .returned (.tuple #[.string ⟨#[]⟩, .int .i64 1]) ∧ w = w' := by
  have h1 : (nd : Int) > 20 := by omega
  go_enter Tryd.func16, Tryd.ntmps16
  go_wp2_with fail
  go_ret2
  exact ⟨rfl, rfl⟩
theorem cell_bytes {w : World} {b n : Nat} {f : Nat → BitVec 8} {T : TypeId} {fr : Nat × Nat} (h : w.heap[b]? = some (.cells (bytesArr f n) T fr)) (i : Nat) (hi : i < n) : w.cell? ⟨b, 0 + i, none⟩ = some (.int .u8 (n8 (f i))) := by
  rw [Nat.zero_add, cell_of_row _ _ _ _ _ _ h]; exact bytesArr_get _ _ _ hi
set_option maxHeartbeats 8000000 in
theorem retry_ok (d r : Nat → BitVec 8) (nd m : Nat) (hd : nd ≤ 20) (hm : m ≤ 1000) (a : Option Addr) (c : Nat) (w : World) (hr : BytesIn w a m r) :
    Calls Tryd.prog 17 #[.string (strOf d nd), .slice a m c] w fun e w' => e = .returned (.tuple #[.string (strOf (tagF d nd r m) 16), .int .i64 0]) ∧ Below w.heap.size w w' := by
  have HR := Lib.hid hr
  have hs := strOf_size d nd
  have sd := fun w' : World => src_str d nd w'
  have SD := Lib.hid sd
  have h1 : ¬ (nd : Int) > 20 := by omega
  have hcv := conv_same w (bytesArr (tb rkL) 16) 5 16 16
  rw [bytesArr_size, ← rk_cells] at hcv
  have B1 : Below w.heap.size w (w.alloc (.cells (bytesArr (tb rkL) 16) 5 (16, 16 + 1))) := (Below.refl _ _).alloc (Nat.le_refl _) _
  have G1 := gnew_ok (tb rkL) w.heap.size 0 16 (w.alloc (.cells (bytesArr (tb rkL) 16) 5 (16, 16 + 1))) (fun i hi => cell_bytes (heap_alloc_last w _) i hi) (by simp)
  rw [← rk_cells] at B1 G1
  have HB1 := Lib.hid B1
  have HG1 := Lib.hid G1
  clear B1 G1 hr sd
  generalize strOf d nd = SDn at *
  go_enter Tryd.func17, Tryd.ntmps17
  go_upto_region 4 with (go_at_call 26; refine HG1.out.mono ?_; rintro e w2 ⟨p, q, rfl, hp, hb, bx⟩; have B2 := Lib.hid (HB1.out.trans (hb.mono HB1.out.size)); have BX := Lib.hid bx; clear hp hb bx)
  clear hcv HG1 HB1
  have mk := run_make_cap (1 + nd + m) (by omega) w2
  have e4 : (1 + (nd : Int) + (m : Int)) = ((1 + nd + m : Nat) : Int) := by omega
  go_upto_region 6 with (fail)
  rw [← e4] at mk
  clear e4
  go_upto_region 7 with (fail)
  have O3 := Own.of_room (B := w2.heap.size) (f := fun _ => 0#8) (Nat.le_refl _) (by unfold maxLen; omega) (heap_alloc_last w2 (.cells (bytesArr (fun _ => 0#8) (1 + nd + m)) 5))
  have Q3 : Below w2.heap.size w2 (w2.alloc (.cells (bytesArr (fun _ => 0#8) (1 + nd + m)) 5)) := (Below.refl _ _).alloc (Nat.le_refl _) _
  generalize w2.alloc _ = w3 at *
  have en : (nd : Int) = n8 (BitVec.ofNat 8 nd) := by rw [n8_nat, BitVec.toNat_ofNat]; omega
  have SR4 : Src Tryd.prog 1 31 (.slice (some ⟨w3.heap.size, 0, none⟩) 1 1) 1 (firsts (fun _ => BitVec.ofNat 8 nd) 1) (w3.alloc (.cells #[.int .u8 (nd : Int)] 5)) := by
    rw [en]; exact src_one_new w3 _
  have O4 := Lib.hid (O3.alloc (.cells #[.int .u8 (nd : Int)] 5))
  have Q4 := Lib.hid (Q3.alloc Q3.size (.cells #[.int .u8 (nd : Int)] 5))
  have SR4 := Lib.hid SR4
  clear O3 Q3 mk en
  go_upto_region 8 with (at_builtin; refine wpList_append_bytes (o := ⟨some 34, _, _, _, _, _⟩) rfl _ _ 31 rfl rfl rfl O4.out SR4.out (by omega) ?_; intro v5 w5 o5 g5; have Q5 := Lib.hid (Q4.out.trans (g5.below O4.out)); have O5 := Lib.hid o5; clear o5 g5)
  clear O4 Q4 SR4
  go_upto_region 9 with (at_builtin; refine wpList_append_bytes (o := ⟨some 37, _, _, _, _, _⟩) rfl _ _ 9 rfl rfl rfl O5.out (SD.out _) (by omega) ?_; intro v6 w6 o6 g6; have Q6 := Lib.hid (Q5.out.trans (g6.below O5.out)); have O6 := Lib.hid o6; clear o6 g6)
  clear O5 Q5
  have in6 := bytesIn_later HR.out (B2.out.trans (Q6.out.mono B2.out.size))
  have SR6 := Lib.hid (src_in in6 c)
  clear in6
  go_upto_region 10 with (at_builtin; refine wpList_append_bytes (o := ⟨some 40, _, _, _, _, _⟩) rfl _ _ 31 rfl rfl rfl O6.out SR6.out (by omega) ?_; intro v7 w7 o7 g7; have Q7 := Lib.hid (Q6.out.trans (g7.below O6.out)); have O7 := Lib.hid o7; clear o7 g7)
  clear O6 Q6 SR6
  obtain ⟨a7, c7, rfl, hc7, hm7, in7⟩ := O7.out.asBytes
  have hcv := conv_same w7 (bytesArr (tb rnL) 12) 5 12 12
  rw [bytesArr_size, ← rn_cells] at hcv
  have Q8 : Below w7.heap.size w7 (w7.alloc (.cells (bytesArr (tb rnL) 12) 5 (12, 12 + 1))) := (Below.refl _ _).alloc (Nat.le_refl _) _
  have B8 := B2.out.trans ((Q7.out.trans (Q8.mono Q7.out.size)).mono B2.out.size)
  have G8 := gseal_ok p q (sched (tb rkL)) (hOf (sched (tb rkL))) (tb rnL) _ (fun _ => 0#8) w7.heap.size 0 12 a7 none _ c7 0 0 (w7.alloc (.cells (bytesArr (tb rnL) 12) 5 (12, 12 + 1)))
    (BX.out.later (Q7.out.trans (Q8.mono Q7.out.size))) (fun i hi => cell_bytes (heap_alloc_last w7 _) i hi) (by simp) (bytesIn_later in7 Q8) hc7 hm7 (nil_in _ _) (by omega)
  rw [← rn_cells] at B8 G8
  have HB8 := Lib.hid B8
  have HG8 := Lib.hid G8
  clear Q8 B8 G8 in7 Q7 O7 BX B2 SD HR
  go_upto_region 11 with (go_at_call 27; refine HG8.out.mono ?_; rintro e w9 ⟨v9, rfl, ho, hb⟩; have O9 := Lib.hid ho; have B9 := Lib.hid (HB8.out.trans (hb.mono HB8.out.size)); clear ho hb)
  clear hcv HG8 HB8
  obtain ⟨a9, c9, rfl, hc9, hm9, in9⟩ := O9.out.asBytes
  have cv9 := conv_in _ a9 _ c9 w9 in9
  clear in9
  go_wp2_with fail
  go_ret2
  exact ⟨rfl, B9.out⟩
theorem joinb_lo (f g : Nat → BitVec 8) (n i : Nat) (h : i < n) : joinb f n g i = f i := by unfold joinb; rw [if_pos h]
theorem joinb_hi (f g : Nat → BitVec 8) (n i : Nat) : joinb f n g (n + i) = g i := by unfold joinb; rw [if_neg (by omega), show n + i - n = i by omega]
set_option maxHeartbeats 8000000 in
theorem docRetry_ok (d r : Nat → BitVec 8) (nd m : Nat) (hd : nd ≤ 20) (hm : m ≤ 1000) (w : World) :
    Calls Tryd.prog 16 #[.string (strOf d nd), .string (strOf r m)] w fun e w' => e = .returned (.tuple #[.string (strOf (tagF d nd r m) 16), .int .i64 0]) ∧ Below w.heap.size w w' := by
  have hs := strOf_size d nd
  have hs2 := strOf_size r m
  have hs3 := strOf_size (joinb (fun _ => BitVec.ofNat 8 nd) 1 d) (1 + nd)
  have hs4 := strOf_size (fun _ => BitVec.ofNat 8 nd) 1
  have e1 := str_join (fun _ => BitVec.ofNat 8 nd) d (joinb (fun _ => BitVec.ofNat 8 nd) 1 d) 1 nd (fun i hi => by unfold joinb; rw [if_pos hi]) (fun i hi => by unfold joinb; rw [if_neg (by omega), show 1 + i - 1 = i by omega])
  have e2 := str_join (joinb (fun _ => BitVec.ofNat 8 nd) 1 d) r (besF d nd r) (1 + nd) m (fun i hi => (joinb_lo _ r (1 + nd) i hi).symm) (fun i hi => by unfold besF; rw [joinb_hi])
  have en : (nd : Int) = n8 (BitVec.ofNat 8 nd) := by rw [n8_nat, BitVec.toNat_ofNat]; omega
  have cv := conv_str (fun _ => BitVec.ofNat 8 nd) w.heap.size 0 1 1 (w.alloc (.cells #[.int .u8 (nd : Int)] 5)) (fun i hi => by
    obtain rfl : i = 0 := by omega
    rw [cell_of_row _ _ _ _ _ _ (heap_alloc_last w _), en]; rfl)
  have B1 : Below w.heap.size w (w.alloc (.cells #[.int .u8 (nd : Int)] 5)) := (Below.refl _ _).alloc (Nat.le_refl _) _
  have SE := sealD_ok (tb rkL) (tb rnL) (besF d nd r) (fun _ => 0#8) (1 + nd + m) 0 (w.alloc (.cells #[.int .u8 (nd : Int)] 5)) (by omega) (by omega)
  rw [rk_str, rn_str, show strOf (fun _ => 0#8) 0 = ⟨#[]⟩ from rfl] at SE
  have HB1 := Lib.hid B1
  have HSE := Lib.hid SE
  have h1 : ¬ (nd : Int) > 20 := by omega
  have h2 : ¬ 9223372036854775807 < 1 + nd := by omega
  have h3 : ¬ 9223372036854775807 < 1 + nd + m := by omega
  clear B1 SE en
  generalize strOf d nd = A1 at *
  generalize strOf r m = A2 at *
  generalize strOf (fun _ => BitVec.ofNat 8 nd) 1 = A3 at *
  generalize strOf (joinb (fun _ => BitVec.ofNat 8 nd) 1 d) (1 + nd) = A4 at *
  generalize strOf (besF d nd r) (1 + nd + m) = A5 at *
  go_enter Tryd.func16, Tryd.ntmps16
  go_wp2_with (go_at_call 22; refine HSE.out.mono ?_; rintro e w2 ⟨rfl, hb⟩; have B2 := Lib.hid (HB1.out.trans (hb.mono HB1.out.size)); clear hb)
  go_ret2
  exact ⟨rfl, B2.out⟩
/-- Both, one behind the other. -/
theorem retry_both (d r : Nat → BitVec 8) (nd m : Nat) (hm : m ≤ 1000) (a : Option Addr) (c : Nat) (w : World) (hr : BytesIn w a m r) :
    Calls Tryd.prog 16 #[.string (strOf d nd), .string (strOf r m)] w fun e w1 => ∃ (T : ByteArray) (x : Int), e = .returned (.tuple #[.string T, .int .i64 x]) ∧ Below w.heap.size w w1 ∧ (x = 0 ∧ T.size = 16 ∨ x = 1) ∧
      Calls Tryd.prog 17 #[.string (strOf d nd), .slice a m c] w1 fun e w2 => e = .returned (.tuple #[.string T, .int .i64 x]) ∧ Below w1.heap.size w1 w2 := by
  by_cases hd : nd ≤ 20
  · refine (docRetry_ok d r nd m hd hm w).mono ?_
    rintro e w1 ⟨rfl, hb⟩
    exact ⟨_, _, rfl, hb, .inl ⟨rfl, strOf_size _ _⟩, retry_ok d r nd m hd hm a c w1 (bytesIn_later hr hb)⟩
  · refine (docRetry_bad _ _ nd (strOf_size _ _) (by omega) w).mono ?_
    rintro e w1 ⟨rfl, rfl⟩
    refine ⟨_, _, rfl, Below.refl _ _, .inr rfl, (retry_bad _ nd (strOf_size _ _) (by omega) a m c _).mono ?_⟩
    rintro e w2 ⟨rfl, rfl⟩
    exact ⟨rfl, Below.refl _ _⟩
end Go.Proofs.YtekgclpmbidphaaDoor
