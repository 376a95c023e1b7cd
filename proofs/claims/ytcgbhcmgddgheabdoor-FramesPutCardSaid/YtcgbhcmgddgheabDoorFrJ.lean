/-
  FRAMES, TENTH PART: a part's bytes behind bytes.
-/
import Derived.Test.YtcgbhcmgddgheabDoorFrI
import Derived.Test.YtcgbhcmgddgheabDoorNoughts
import Derived.Test.YtcgbhcmgddgheabDoorHeld
namespace Go.Proofs.YtcgbhcmgddgheabDoor
open Go Go.RowKit Go.BigFrame
set_option linter.unusedSimpArgs false
set_option linter.unusedVariables false
set_option maxRecDepth 100000
def byteT (n : Nat) : ByteArray := strOf (fun _ => BitVec.ofNat 8 n) 1
def zeroT (n : Nat) : ByteArray := strOf (fun _ => 0#8) n
def appF (f : Fr) (p : Nat) : ByteArray :=
  match p with
  | 0 => numT f.S
  | 1 => numT f.O
  | 2 => numT f.N
  | 3 => numT f.C
  | 4 => numT (f.D.size : Int) ++ f.D
  | 6 => byteT f.D.size ++ f.D
  | 7 => f.D
  | 8 => f.X
  | 9 => numsT (acksL f.N f.A)
  | 10 => zeroT (f.N.toNat - 1)
  | _ => ⟨#[]⟩
theorem mostN_le (f : Fr) : mostN f ≤ MX := by unfold mostN MX; split <;> omega
set_option maxHeartbeats 8000000 in
theorem appendPart_0 {B : Nat} {bv : Value} {S : ByteArray} (f : Fr) (v : Value) (w0 w : World) (hA : SpansIn w0 v f.A) (h0B : w0.heap.size ≤ B) (h0w : Below w0.heap.size w0 w) (tab0 : Tab w0) (hfit : fitsF f 0) (h : OwnS B bv S w) (hS : S.size ≤ 1000000) :
    Calls Tryd.prog 23 #[.agg (f.cells v), bv, .int .i64 0] w fun e w' => ∃ v', e = .returned v' ∧ OwnS B v' (S ++ appF f 0) w' ∧ GrownV w w' bv v' := by
  have OW := Lib.hid h
  have HF := Lib.hid hfit
  have HA := Lib.hid hA
  have HB0 := Lib.hid h0B
  have H0W := Lib.hid h0w
  have TB0 := Lib.hid tab0
  have TB := Lib.hid (fun (w' : World) (hb : Below B w w') => tab0.later (h0w.trans (hb.mono h0B)))
  clear hA h0B h0w tab0 hfit h
  have AK := Lib.hid (fun (w' : World) (hb : Below w.heap.size w w') => appendAcks_any (B := B) (bv := bv) (S := S) f v w0 w' HA.out HB0.out (H0W.out.trans (hb.mono H0W.out.size)) TB0.out)
  obtain ⟨kd, S1, O, N, C, F, D, X, A⟩ := f
  dsimp only [Fr.cells, appF] at *
  unfold frC at *
  have row := heap_alloc_last w (.cells #[.int .i64 kd, .int .i64 S1, .int .i64 O, .int .i64 N, .int .i64 C, .bool F, .string D, .string X, v] 33)
  have bel := (Below.refl w.heap.size w).alloc (Nat.le_refl _) (.cells #[.int .i64 kd, .int .i64 S1, .int .i64 O, .int .i64 N, .int .i64 C, .bool F, .string D, .string X, v] 33)
  go_enter Tryd.func23, Tryd.ntmps23
  go_upto_region 1 with (fail)
  generalize w.alloc _ = w1 at *
  have O1 := Lib.hid (OW.out.later bel)
  have B1 := Lib.hid bel
  have BB1 := Lib.hid (bel.mono (show B ≤ w.heap.size by obtain ⟨_, _, ho, _⟩ := OW.out; exact ho.base))
  have R1 := Lib.hid row
  have G1 := Lib.hid (GrownV.of_below bv bel)
  obtain ⟨c0, c1, c2, c3, c4, c5, c6, c7, c8⟩ := cells9 row
  clear row bel
  have AN := Lib.hid (appendN1 S1 (HF.out) w1 O1.out (by omega) (fun w' hb => TB.out w' (BB1.out.trans hb)))
  clear AK
  go_wp2_with fail
  with_reducible refine AN.out.mono ?_
  rintro e w3 ⟨v3, rfl, ho3, hg3⟩
  rw [numsT_one] at ho3
  have O3 := Lib.hid ho3
  have G3 := Lib.hid (G1.out.trans hg3)
  clear ho3 hg3 AN c0 c1 c2 c3 c4 c5 c6 c7 c8
  go_wp2_with fail
  go_ret
  exact ⟨_, rfl, O3.out, G3.out⟩
set_option maxHeartbeats 8000000 in
theorem appendPart_1 {B : Nat} {bv : Value} {S : ByteArray} (f : Fr) (v : Value) (w0 w : World) (hA : SpansIn w0 v f.A) (h0B : w0.heap.size ≤ B) (h0w : Below w0.heap.size w0 w) (tab0 : Tab w0) (hfit : fitsF f 1) (hO : f.O ≤ MX) (h : OwnS B bv S w) (hS : S.size ≤ 1000000) :
    Calls Tryd.prog 23 #[.agg (f.cells v), bv, .int .i64 1] w fun e w' => ∃ v', e = .returned v' ∧ OwnS B v' (S ++ appF f 1) w' ∧ GrownV w w' bv v' := by
  have OW := Lib.hid h
  have HF := Lib.hid hfit
  have HA := Lib.hid hA
  have HB0 := Lib.hid h0B
  have H0W := Lib.hid h0w
  have TB0 := Lib.hid tab0
  have TB := Lib.hid (fun (w' : World) (hb : Below B w w') => tab0.later (h0w.trans (hb.mono h0B)))
  have HO := Lib.hid hO
  clear hO
  clear hA h0B h0w tab0 hfit h
  have AK := Lib.hid (fun (w' : World) (hb : Below w.heap.size w w') => appendAcks_any (B := B) (bv := bv) (S := S) f v w0 w' HA.out HB0.out (H0W.out.trans (hb.mono H0W.out.size)) TB0.out)
  obtain ⟨kd, S1, O, N, C, F, D, X, A⟩ := f
  dsimp only [Fr.cells, appF] at *
  unfold frC at *
  have row := heap_alloc_last w (.cells #[.int .i64 kd, .int .i64 S1, .int .i64 O, .int .i64 N, .int .i64 C, .bool F, .string D, .string X, v] 33)
  have bel := (Below.refl w.heap.size w).alloc (Nat.le_refl _) (.cells #[.int .i64 kd, .int .i64 S1, .int .i64 O, .int .i64 N, .int .i64 C, .bool F, .string D, .string X, v] 33)
  go_enter Tryd.func23, Tryd.ntmps23
  go_upto_region 1 with (fail)
  generalize w.alloc _ = w1 at *
  have O1 := Lib.hid (OW.out.later bel)
  have B1 := Lib.hid bel
  have BB1 := Lib.hid (bel.mono (show B ≤ w.heap.size by obtain ⟨_, _, ho, _⟩ := OW.out; exact ho.base))
  have R1 := Lib.hid row
  have G1 := Lib.hid (GrownV.of_below bv bel)
  obtain ⟨c0, c1, c2, c3, c4, c5, c6, c7, c8⟩ := cells9 row
  clear row bel
  have AN := Lib.hid (appendN1 O (⟨HF.out.1, HO.out⟩) w1 O1.out (by omega) (fun w' hb => TB.out w' (BB1.out.trans hb)))
  clear AK
  go_wp2_with fail
  with_reducible refine AN.out.mono ?_
  rintro e w3 ⟨v3, rfl, ho3, hg3⟩
  rw [numsT_one] at ho3
  have O3 := Lib.hid ho3
  have G3 := Lib.hid (G1.out.trans hg3)
  clear ho3 hg3 AN c0 c1 c2 c3 c4 c5 c6 c7 c8
  go_wp2_with fail
  go_ret
  exact ⟨_, rfl, O3.out, G3.out⟩
set_option maxHeartbeats 8000000 in
theorem appendPart_2 {B : Nat} {bv : Value} {S : ByteArray} (f : Fr) (v : Value) (w0 w : World) (hA : SpansIn w0 v f.A) (h0B : w0.heap.size ≤ B) (h0w : Below w0.heap.size w0 w) (tab0 : Tab w0) (hfit : fitsF f 2) (h : OwnS B bv S w) (hS : S.size ≤ 1000000) :
    Calls Tryd.prog 23 #[.agg (f.cells v), bv, .int .i64 2] w fun e w' => ∃ v', e = .returned v' ∧ OwnS B v' (S ++ appF f 2) w' ∧ GrownV w w' bv v' := by
  have OW := Lib.hid h
  have HF := Lib.hid hfit
  have HA := Lib.hid hA
  have HB0 := Lib.hid h0B
  have H0W := Lib.hid h0w
  have TB0 := Lib.hid tab0
  have TB := Lib.hid (fun (w' : World) (hb : Below B w w') => tab0.later (h0w.trans (hb.mono h0B)))
  have HM := Lib.hid (mostN_le f)
  clear hA h0B h0w tab0 hfit h
  have AK := Lib.hid (fun (w' : World) (hb : Below w.heap.size w w') => appendAcks_any (B := B) (bv := bv) (S := S) f v w0 w' HA.out HB0.out (H0W.out.trans (hb.mono H0W.out.size)) TB0.out)
  obtain ⟨kd, S1, O, N, C, F, D, X, A⟩ := f
  dsimp only [Fr.cells, appF] at *
  unfold frC at *
  have row := heap_alloc_last w (.cells #[.int .i64 kd, .int .i64 S1, .int .i64 O, .int .i64 N, .int .i64 C, .bool F, .string D, .string X, v] 33)
  have bel := (Below.refl w.heap.size w).alloc (Nat.le_refl _) (.cells #[.int .i64 kd, .int .i64 S1, .int .i64 O, .int .i64 N, .int .i64 C, .bool F, .string D, .string X, v] 33)
  go_enter Tryd.func23, Tryd.ntmps23
  go_upto_region 1 with (fail)
  generalize w.alloc _ = w1 at *
  have O1 := Lib.hid (OW.out.later bel)
  have B1 := Lib.hid bel
  have BB1 := Lib.hid (bel.mono (show B ≤ w.heap.size by obtain ⟨_, _, ho, _⟩ := OW.out; exact ho.base))
  have R1 := Lib.hid row
  have G1 := Lib.hid (GrownV.of_below bv bel)
  obtain ⟨c0, c1, c2, c3, c4, c5, c6, c7, c8⟩ := cells9 row
  clear row bel
  have AN := Lib.hid (appendN1 N (⟨HF.out.1, Int.le_trans HF.out.2 HM.out⟩) w1 O1.out (by omega) (fun w' hb => TB.out w' (BB1.out.trans hb)))
  clear AK
  go_wp2_with fail
  with_reducible refine AN.out.mono ?_
  rintro e w3 ⟨v3, rfl, ho3, hg3⟩
  rw [numsT_one] at ho3
  have O3 := Lib.hid ho3
  have G3 := Lib.hid (G1.out.trans hg3)
  clear ho3 hg3 AN c0 c1 c2 c3 c4 c5 c6 c7 c8
  go_wp2_with fail
  go_ret
  exact ⟨_, rfl, O3.out, G3.out⟩
set_option maxHeartbeats 8000000 in
theorem appendPart_3 {B : Nat} {bv : Value} {S : ByteArray} (f : Fr) (v : Value) (w0 w : World) (hA : SpansIn w0 v f.A) (h0B : w0.heap.size ≤ B) (h0w : Below w0.heap.size w0 w) (tab0 : Tab w0) (hfit : fitsF f 3) (h : OwnS B bv S w) (hS : S.size ≤ 1000000) :
    Calls Tryd.prog 23 #[.agg (f.cells v), bv, .int .i64 3] w fun e w' => ∃ v', e = .returned v' ∧ OwnS B v' (S ++ appF f 3) w' ∧ GrownV w w' bv v' := by
  have OW := Lib.hid h
  have HF := Lib.hid hfit
  have HA := Lib.hid hA
  have HB0 := Lib.hid h0B
  have H0W := Lib.hid h0w
  have TB0 := Lib.hid tab0
  have TB := Lib.hid (fun (w' : World) (hb : Below B w w') => tab0.later (h0w.trans (hb.mono h0B)))
  clear hA h0B h0w tab0 hfit h
  have AK := Lib.hid (fun (w' : World) (hb : Below w.heap.size w w') => appendAcks_any (B := B) (bv := bv) (S := S) f v w0 w' HA.out HB0.out (H0W.out.trans (hb.mono H0W.out.size)) TB0.out)
  obtain ⟨kd, S1, O, N, C, F, D, X, A⟩ := f
  dsimp only [Fr.cells, appF] at *
  unfold frC at *
  have row := heap_alloc_last w (.cells #[.int .i64 kd, .int .i64 S1, .int .i64 O, .int .i64 N, .int .i64 C, .bool F, .string D, .string X, v] 33)
  have bel := (Below.refl w.heap.size w).alloc (Nat.le_refl _) (.cells #[.int .i64 kd, .int .i64 S1, .int .i64 O, .int .i64 N, .int .i64 C, .bool F, .string D, .string X, v] 33)
  go_enter Tryd.func23, Tryd.ntmps23
  go_upto_region 1 with (fail)
  generalize w.alloc _ = w1 at *
  have O1 := Lib.hid (OW.out.later bel)
  have B1 := Lib.hid bel
  have BB1 := Lib.hid (bel.mono (show B ≤ w.heap.size by obtain ⟨_, _, ho, _⟩ := OW.out; exact ho.base))
  have R1 := Lib.hid row
  have G1 := Lib.hid (GrownV.of_below bv bel)
  obtain ⟨c0, c1, c2, c3, c4, c5, c6, c7, c8⟩ := cells9 row
  clear row bel
  have AN := Lib.hid (appendN1 C (HF.out) w1 O1.out (by omega) (fun w' hb => TB.out w' (BB1.out.trans hb)))
  clear AK
  go_wp2_with fail
  with_reducible refine AN.out.mono ?_
  rintro e w3 ⟨v3, rfl, ho3, hg3⟩
  rw [numsT_one] at ho3
  have O3 := Lib.hid ho3
  have G3 := Lib.hid (G1.out.trans hg3)
  clear ho3 hg3 AN c0 c1 c2 c3 c4 c5 c6 c7 c8
  go_wp2_with fail
  go_ret
  exact ⟨_, rfl, O3.out, G3.out⟩
set_option maxHeartbeats 8000000 in
theorem appendPart_7 {B : Nat} {bv : Value} {S : ByteArray} (f : Fr) (v : Value) (w0 w : World) (hA : SpansIn w0 v f.A) (h0B : w0.heap.size ≤ B) (h0w : Below w0.heap.size w0 w) (tab0 : Tab w0) (hfit : fitsF f 7) (h : OwnS B bv S w) (hS : S.size ≤ 1000000) :
    Calls Tryd.prog 23 #[.agg (f.cells v), bv, .int .i64 7] w fun e w' => ∃ v', e = .returned v' ∧ OwnS B v' (S ++ appF f 7) w' ∧ GrownV w w' bv v' := by
  have OW := Lib.hid h
  have HF := Lib.hid hfit
  have HA := Lib.hid hA
  have HB0 := Lib.hid h0B
  have H0W := Lib.hid h0w
  have TB0 := Lib.hid tab0
  have TB := Lib.hid (fun (w' : World) (hb : Below B w w') => tab0.later (h0w.trans (hb.mono h0B)))
  clear hA h0B h0w tab0 hfit h
  have AK := Lib.hid (fun (w' : World) (hb : Below w.heap.size w w') => appendAcks_any (B := B) (bv := bv) (S := S) f v w0 w' HA.out HB0.out (H0W.out.trans (hb.mono H0W.out.size)) TB0.out)
  obtain ⟨kd, S1, O, N, C, F, D, X, A⟩ := f
  dsimp only [Fr.cells, appF] at *
  unfold frC at *
  have row := heap_alloc_last w (.cells #[.int .i64 kd, .int .i64 S1, .int .i64 O, .int .i64 N, .int .i64 C, .bool F, .string D, .string X, v] 33)
  have bel := (Below.refl w.heap.size w).alloc (Nat.le_refl _) (.cells #[.int .i64 kd, .int .i64 S1, .int .i64 O, .int .i64 N, .int .i64 C, .bool F, .string D, .string X, v] 33)
  go_enter Tryd.func23, Tryd.ntmps23
  go_upto_region 1 with (fail)
  generalize w.alloc _ = w1 at *
  have O1 := Lib.hid (OW.out.later bel)
  have B1 := Lib.hid bel
  have BB1 := Lib.hid (bel.mono (show B ≤ w.heap.size by obtain ⟨_, _, ho, _⟩ := OW.out; exact ho.base))
  have R1 := Lib.hid row
  have G1 := Lib.hid (GrownV.of_below bv bel)
  obtain ⟨c0, c1, c2, c3, c4, c5, c6, c7, c8⟩ := cells9 row
  clear row bel
  obtain ⟨d, hd⟩ := str_as D
  obtain ⟨m, hm⟩ : ∃ m, D.size = m := ⟨_, rfl⟩
  rw [hm] at hd
  have HM := Lib.hid hm
  have HD := Lib.hid hd
  have SR := Lib.hid (fun (w' : World) => src_str d m w')
  rw [← hd] at SR
  clear hd
  obtain ⟨n0, f0, ho1, hS0⟩ := O1.out
  rw [hS0, strOf_size] at hS
  have P1 := Lib.hid ho1
  have HS0 := Lib.hid hS0
  have hm8 : m ≤ 8 := by have h1 : (D.size : Int) = 8 := HF.out; have h2 := HM.out; omega
  clear ho1 hS0 hm AK
  go_wp2_with (first
    | (at_builtin; refine wpList_append_bytes (o := ⟨some 64, _, _, _, _, _⟩) rfl _ _ 9 rfl rfl rfl P1.out (SR.out _) (by omega) ?_; intro v3 w3 ho3 hg3; have P3 := Lib.hid ho3; have G3 := Lib.hid (G1.out.trans hg3); clear ho3 hg3)
    | fail)
  go_ret
  exact ⟨_, rfl, ⟨_, _, P3.out, by rw [HS0.out, HD.out, joined]⟩, G3.out⟩
set_option maxHeartbeats 8000000 in
theorem appendPart_8 {B : Nat} {bv : Value} {S : ByteArray} (f : Fr) (v : Value) (w0 w : World) (hA : SpansIn w0 v f.A) (h0B : w0.heap.size ≤ B) (h0w : Below w0.heap.size w0 w) (tab0 : Tab w0) (hfit : fitsF f 8) (h : OwnS B bv S w) (hS : S.size ≤ 1000000) :
    Calls Tryd.prog 23 #[.agg (f.cells v), bv, .int .i64 8] w fun e w' => ∃ v', e = .returned v' ∧ OwnS B v' (S ++ appF f 8) w' ∧ GrownV w w' bv v' := by
  have OW := Lib.hid h
  have HF := Lib.hid hfit
  have HA := Lib.hid hA
  have HB0 := Lib.hid h0B
  have H0W := Lib.hid h0w
  have TB0 := Lib.hid tab0
  have TB := Lib.hid (fun (w' : World) (hb : Below B w w') => tab0.later (h0w.trans (hb.mono h0B)))
  clear hA h0B h0w tab0 hfit h
  have AK := Lib.hid (fun (w' : World) (hb : Below w.heap.size w w') => appendAcks_any (B := B) (bv := bv) (S := S) f v w0 w' HA.out HB0.out (H0W.out.trans (hb.mono H0W.out.size)) TB0.out)
  obtain ⟨kd, S1, O, N, C, F, D, X, A⟩ := f
  dsimp only [Fr.cells, appF] at *
  unfold frC at *
  have row := heap_alloc_last w (.cells #[.int .i64 kd, .int .i64 S1, .int .i64 O, .int .i64 N, .int .i64 C, .bool F, .string D, .string X, v] 33)
  have bel := (Below.refl w.heap.size w).alloc (Nat.le_refl _) (.cells #[.int .i64 kd, .int .i64 S1, .int .i64 O, .int .i64 N, .int .i64 C, .bool F, .string D, .string X, v] 33)
  go_enter Tryd.func23, Tryd.ntmps23
  go_upto_region 1 with (fail)
  generalize w.alloc _ = w1 at *
  have O1 := Lib.hid (OW.out.later bel)
  have B1 := Lib.hid bel
  have BB1 := Lib.hid (bel.mono (show B ≤ w.heap.size by obtain ⟨_, _, ho, _⟩ := OW.out; exact ho.base))
  have R1 := Lib.hid row
  have G1 := Lib.hid (GrownV.of_below bv bel)
  obtain ⟨c0, c1, c2, c3, c4, c5, c6, c7, c8⟩ := cells9 row
  clear row bel
  obtain ⟨d, hd⟩ := str_as X
  obtain ⟨m, hm⟩ : ∃ m, X.size = m := ⟨_, rfl⟩
  rw [hm] at hd
  have HM := Lib.hid hm
  have HD := Lib.hid hd
  have SR := Lib.hid (fun (w' : World) => src_str d m w')
  rw [← hd] at SR
  clear hd
  obtain ⟨n0, f0, ho1, hS0⟩ := O1.out
  rw [hS0, strOf_size] at hS
  have P1 := Lib.hid ho1
  have HS0 := Lib.hid hS0
  have hm8 : m ≤ 16 := by have h1 : (X.size : Int) = 16 := HF.out; have h2 := HM.out; omega
  clear ho1 hS0 hm AK
  go_wp2_with (first
    | (at_builtin; refine wpList_append_bytes (o := ⟨some 70, _, _, _, _, _⟩) rfl _ _ 9 rfl rfl rfl P1.out (SR.out _) (by omega) ?_; intro v3 w3 ho3 hg3; have P3 := Lib.hid ho3; have G3 := Lib.hid (G1.out.trans hg3); clear ho3 hg3)
    | fail)
  go_ret
  exact ⟨_, rfl, ⟨_, _, P3.out, by rw [HS0.out, HD.out, joined]⟩, G3.out⟩
set_option maxHeartbeats 8000000 in
theorem appendPart_4 {B : Nat} {bv : Value} {S : ByteArray} (f : Fr) (v : Value) (w0 w : World) (hA : SpansIn w0 v f.A) (h0B : w0.heap.size ≤ B) (h0w : Below w0.heap.size w0 w) (tab0 : Tab w0) (hfit : fitsF f 4) (h : OwnS B bv S w) (hS : S.size ≤ 1000000) :
    Calls Tryd.prog 23 #[.agg (f.cells v), bv, .int .i64 4] w fun e w' => ∃ v', e = .returned v' ∧ OwnS B v' (S ++ appF f 4) w' ∧ GrownV w w' bv v' := by
  have OW := Lib.hid h
  have HF := Lib.hid hfit
  have HA := Lib.hid hA
  have HB0 := Lib.hid h0B
  have H0W := Lib.hid h0w
  have TB0 := Lib.hid tab0
  have TB := Lib.hid (fun (w' : World) (hb : Below B w w') => tab0.later (h0w.trans (hb.mono h0B)))
  clear hA h0B h0w tab0 hfit h
  have AK := Lib.hid (fun (w' : World) (hb : Below w.heap.size w w') => appendAcks_any (B := B) (bv := bv) (S := S) f v w0 w' HA.out HB0.out (H0W.out.trans (hb.mono H0W.out.size)) TB0.out)
  obtain ⟨kd, S1, O, N, C, F, D, X, A⟩ := f
  dsimp only [Fr.cells, appF] at *
  unfold frC at *
  have row := heap_alloc_last w (.cells #[.int .i64 kd, .int .i64 S1, .int .i64 O, .int .i64 N, .int .i64 C, .bool F, .string D, .string X, v] 33)
  have bel := (Below.refl w.heap.size w).alloc (Nat.le_refl _) (.cells #[.int .i64 kd, .int .i64 S1, .int .i64 O, .int .i64 N, .int .i64 C, .bool F, .string D, .string X, v] 33)
  go_enter Tryd.func23, Tryd.ntmps23
  go_upto_region 1 with (fail)
  generalize w.alloc _ = w1 at *
  have O1 := Lib.hid (OW.out.later bel)
  have B1 := Lib.hid bel
  have BB1 := Lib.hid (bel.mono (show B ≤ w.heap.size by obtain ⟨_, _, ho, _⟩ := OW.out; exact ho.base))
  have R1 := Lib.hid row
  have G1 := Lib.hid (GrownV.of_below bv bel)
  obtain ⟨c0, c1, c2, c3, c4, c5, c6, c7, c8⟩ := cells9 row
  clear row bel
  obtain ⟨d, hd⟩ := str_as D
  obtain ⟨m, hm⟩ : ∃ m, D.size = m := ⟨_, rfl⟩
  rw [hm] at hd
  have HM := Lib.hid hm
  have HD := Lib.hid hd
  have SR := Lib.hid (fun (w' : World) => src_str d m w')
  rw [← hd] at SR
  clear hd
  have hm6 : m ≤ 65535 := by have h1 : (D.size : Int) ≤ 65535 := HF.out.2; have h2 := HM.out; omega
  have DR := Lib.hid (O1.out.later (Below.refl _ _).drew)
  have BBd := Lib.hid (BB1.out.trans (Below.refl B w1).drew)
  have AN := Lib.hid (appendN1 (m : Int) (⟨by omega, by unfold MX; omega⟩) w1.drew DR.out (by omega) (fun w' hb => TB.out w' (BBd.out.trans hb)))
  clear AK
  go_upto_region 11 with (fail)
  clear c0 c1 c2 c3 c4 c5 c6 c7 c8
  have HS : Hid ((fun w' => w'.heap[w.heap.size]? = some (.cells #[.int .i64 kd, .int .i64 S1, .int .i64 O, .int .i64 N, .int .i64 C, .bool F, .string D, .string X, v] 33 (0, 0))) w1.drew) := Lib.hid R1.out
  refine wp_region_held_drew (S := (fun w' => w'.heap[w.heap.size]? = some (.cells #[.int .i64 kd, .int .i64 S1, .int .i64 O, .int .i64 N, .int .i64 C, .bool F, .string D, .string X, v] 33 (0, 0)))) mixedOrders HS.out (fun hHeld => ?_)
  clear hHeld
  refine wpAnyH_take (i := 0) (oi := ⟨some 38, _, _, _, _, _⟩) (v := bv) rfl (by kernel_rfl) (by kernel_rfl) (by kernel_rfl) (fun _ _ _ h => h) (Or.inl ⟨by rfl, fun w' hSw => ?_⟩) HS.out ?_
  · go_simp
  simp only [Act.put, List.setIfInBounds_toArray, List.set_cons_succ, List.set_cons_zero]
  refine wpAnyH_take (i := 1) (oi := ⟨some 39, _, _, _, _, _⟩) (v := .pointer (some ⟨w.heap.size, 6, none⟩)) rfl (by kernel_rfl) (by kernel_rfl) (by kernel_rfl) (fun _ _ _ h => h) (Or.inl ⟨by rfl, fun w' hSw => ?_⟩) HS.out ?_
  · go_simp
  simp only [Act.put, List.setIfInBounds_toArray, List.set_cons_succ, List.set_cons_zero]
  refine wpAnyH_take (i := 2) (oi := ⟨some 40, _, _, _, _, _⟩) (v := .string D) rfl (by kernel_rfl) (by kernel_rfl) (by kernel_rfl) (fun _ _ _ h => h) (Or.inl ⟨by rfl, fun w' hSw => ?_⟩) HS.out ?_
  · obtain ⟨c0, c1, c2, c3, c4, c5, c6, c7, c8⟩ := cells9 hSw
    clear hSw
    go_simp
  simp only [Act.put, List.setIfInBounds_toArray, List.set_cons_succ, List.set_cons_zero]
  refine wpAnyH_take (i := 3) (oi := ⟨some 41, _, _, _, _, _⟩) (v := .int .i64 (m : Int)) rfl (by kernel_rfl) (by kernel_rfl) (by kernel_rfl) (fun _ _ _ h => h) (Or.inl ⟨by rfl, fun w' hSw => ?_⟩) HS.out ?_
  · go_simp
  simp only [Act.put, List.setIfInBounds_toArray, List.set_cons_succ, List.set_cons_zero]
  refine wpAnyH_take (i := 6) (oi := ⟨some 44, _, _, _, _, _⟩) (v := .pointer (some ⟨w.heap.size, 6, none⟩)) rfl (by kernel_rfl) (by kernel_rfl) (by kernel_rfl) (fun _ _ _ h => h) (Or.inl ⟨by rfl, fun w' hSw => ?_⟩) HS.out ?_
  · go_simp
  simp only [Act.put, List.setIfInBounds_toArray, List.set_cons_succ, List.set_cons_zero]
  refine wpAnyH_take (i := 7) (oi := ⟨some 45, _, _, _, _, _⟩) (v := .string D) rfl (by kernel_rfl) (by kernel_rfl) (by kernel_rfl) (fun _ _ _ h => h) (Or.inl ⟨by rfl, fun w' hSw => ?_⟩) HS.out ?_
  · obtain ⟨c0, c1, c2, c3, c4, c5, c6, c7, c8⟩ := cells9 hSw
    clear hSw
    go_simp
  simp only [Act.put, List.setIfInBounds_toArray, List.set_cons_succ, List.set_cons_zero]
  refine wpAnyH_ready (rs := [4]) (by kernel_rfl) (by simp) ?_
  refine AllReadyH.cons (i := 4) rfl (fun K hK => ?_) AllReadyH.nil
  rw [if_pos (by rfl)]
  go_simp
  have AN2 := Lib.hid (show Calls Tryd.prog 33 #[bv, .slice (some ⟨w1.heap.size, 0, none⟩) 1 1] (w1.alloc (.cells #[.int .i64 (m : Int)] 3)).drew _ from AN.out)
  have al := ((Below.refl w1.heap.size w1).alloc (Nat.le_refl _) (.cells #[.int .i64 (m : Int)] 3)).drew
  generalize (w1.alloc _).drew = w2 at *
  have hs2 : w2.heap[w.heap.size]? = some (.cells #[.int .i64 kd, .int .i64 S1, .int .i64 O, .int .i64 N, .int .i64 C, .bool F, .string D, .string X, v] 33 (0, 0)) := (al.block _ (lt_row R1.out)).trans R1.out
  have R2 := Lib.hid hs2
  refine hK.out _ _ hs2 (fun _ => ?_)
  clear hK K hs2 al AN HS
  try simp only [Act.put, List.setIfInBounds_toArray, List.set_cons_succ, List.set_cons_zero]
  refine wpAnyH_ready (rs := [5]) (by kernel_rfl) (by simp) ?_
  refine AllReadyH.cons (i := 5) rfl (fun K hK => ?_) AllReadyH.nil
  rw [if_pos (by rfl)]
  go_simp
  go_at_call 33
  refine AN2.out.mono ?_
  rintro e w3 ⟨v3, rfl, ho3, hg3⟩
  rw [numsT_one] at ho3
  dsimp only
  have ne1 : bv.ownBlock ≠ some w.heap.size := fun e => by have := (OW.out.lt e).2; omega
  have hs3 : w3.heap[w.heap.size]? = some (.cells #[.int .i64 kd, .int .i64 S1, .int .i64 O, .int .i64 N, .int .i64 C, .bool F, .string D, .string X, v] 33 (0, 0)) := (hg3.block (lt_row R1.out) ne1).trans R1.out
  have ne3 := Lib.hid (ho3.not hs3 (by decide))
  have R3 := Lib.hid hs3
  have G3 := Lib.hid (G1.out.trans ((GrownV.of_below bv (Below.refl _ w1).drew).trans hg3))
  have hsz : (S ++ numT (m : Int)).size ≤ 1000100 := by rw [ByteArray.size_append]; have := (numT_size (m : Int)).2; omega
  obtain ⟨n0, f0, ho, hS0⟩ := ho3
  rw [hS0, strOf_size] at hsz
  have P3 := Lib.hid ho
  have HS0 := Lib.hid hS0
  refine hK.out _ _ hs3 (fun _ => ?_)
  clear hK K hs3 ho hS0 hg3 AN2 ne1
  try simp only [Act.put, List.setIfInBounds_toArray, List.set_cons_succ, List.set_cons_zero]
  refine wpAnyH_ready (rs := [8]) (by kernel_rfl) (by simp) ?_
  refine AllReadyH.cons (i := 8) rfl (fun K hK => ?_) AllReadyH.nil
  refine step_append_bytes (o := ⟨some 46, _, _, _, _, _⟩) (by rfl) _ _ 9 rfl rfl rfl P3.out (SR.out _) (by omega) ?_
  intro v4 w4 ho4 hg4
  have HS := Lib.hid (show w4.heap[w.heap.size]? = some (.cells #[.int .i64 kd, .int .i64 S1, .int .i64 O, .int .i64 N, .int .i64 C, .bool F, .string D, .string X, v] 33 (0, 0)) from (hg4.block (lt_row R3.out) ne3.out).trans R3.out)
  have P4 := Lib.hid ho4
  have G4 := Lib.hid (G3.out.trans hg4)
  clear ho4 hg4
  refine hK.out _ _ HS.out (fun _ => ?_)
  clear hK K
  try simp only [Act.put, List.setIfInBounds_toArray, List.set_cons_succ, List.set_cons_zero]
  refine wpAnyH_take (i := 9) (oi := ⟨some 6, _, _, _, _, _⟩) (v := v4) rfl (by kernel_rfl) (by kernel_rfl) (by kernel_rfl) (fun _ _ _ h => h) (Or.inl ⟨by rfl, fun w' hSw => ?_⟩) HS.out ?_
  · go_simp
  simp only [Act.put, List.setIfInBounds_toArray, List.set_cons_succ, List.set_cons_zero]
  refine wpAnyH_done (by kernel_rfl) ?_ _
  go_wp2_with fail
  go_ret
  exact ⟨_, rfl, ⟨_, _, P4.out, by rw [HM.out, ← ByteArray.append_assoc, HS0.out, HD.out, joined]⟩, G4.out⟩
set_option maxHeartbeats 8000000 in
theorem appendPart_6 {B : Nat} {bv : Value} {S : ByteArray} (f : Fr) (v : Value) (w0 w : World) (hA : SpansIn w0 v f.A) (h0B : w0.heap.size ≤ B) (h0w : Below w0.heap.size w0 w) (tab0 : Tab w0) (hfit : fitsF f 6) (h : OwnS B bv S w) (hS : S.size ≤ 1000000) :
    Calls Tryd.prog 23 #[.agg (f.cells v), bv, .int .i64 6] w fun e w' => ∃ v', e = .returned v' ∧ OwnS B v' (S ++ appF f 6) w' ∧ GrownV w w' bv v' := by
  have OW := Lib.hid h
  have HF := Lib.hid hfit
  have HA := Lib.hid hA
  have HB0 := Lib.hid h0B
  have H0W := Lib.hid h0w
  have TB0 := Lib.hid tab0
  have TB := Lib.hid (fun (w' : World) (hb : Below B w w') => tab0.later (h0w.trans (hb.mono h0B)))
  clear hA h0B h0w tab0 hfit h
  have AK := Lib.hid (fun (w' : World) (hb : Below w.heap.size w w') => appendAcks_any (B := B) (bv := bv) (S := S) f v w0 w' HA.out HB0.out (H0W.out.trans (hb.mono H0W.out.size)) TB0.out)
  obtain ⟨kd, S1, O, N, C, F, D, X, A⟩ := f
  dsimp only [Fr.cells, appF] at *
  unfold frC at *
  have row := heap_alloc_last w (.cells #[.int .i64 kd, .int .i64 S1, .int .i64 O, .int .i64 N, .int .i64 C, .bool F, .string D, .string X, v] 33)
  have bel := (Below.refl w.heap.size w).alloc (Nat.le_refl _) (.cells #[.int .i64 kd, .int .i64 S1, .int .i64 O, .int .i64 N, .int .i64 C, .bool F, .string D, .string X, v] 33)
  go_enter Tryd.func23, Tryd.ntmps23
  go_upto_region 1 with (fail)
  generalize w.alloc _ = w1 at *
  have O1 := Lib.hid (OW.out.later bel)
  have B1 := Lib.hid bel
  have BB1 := Lib.hid (bel.mono (show B ≤ w.heap.size by obtain ⟨_, _, ho, _⟩ := OW.out; exact ho.base))
  have R1 := Lib.hid row
  have G1 := Lib.hid (GrownV.of_below bv bel)
  obtain ⟨c0, c1, c2, c3, c4, c5, c6, c7, c8⟩ := cells9 row
  clear row bel
  obtain ⟨d, hd⟩ := str_as D
  obtain ⟨m, hm⟩ : ∃ m, D.size = m := ⟨_, rfl⟩
  rw [hm] at hd
  have HM := Lib.hid hm
  have HD := Lib.hid hd
  have SR := Lib.hid (fun (w' : World) => src_str d m w')
  rw [← hd] at SR
  clear hd
  have hm6 : m ≤ 20 := by have h1 : (D.size : Int) ≤ 20 := HF.out.2; have h2 := HM.out; omega
  have e2 : n8 (BitVec.ofNat 8 m) = (m : Int) := by rw [n8_nat, BitVec.toNat_ofNat]; omega
  have sx := src_one_new w1.drew (BitVec.ofNat 8 m)
  rw [e2] at sx
  have SX := Lib.hid sx
  obtain ⟨n1, f1, ho1, hS1⟩ := O1.out
  rw [hS1, strOf_size] at hS
  have P1 := Lib.hid ho1
  have HS1 := Lib.hid hS1
  clear AK e2 sx ho1 hS1
  go_upto_region 13 with (fail)
  clear c0 c1 c2 c3 c4 c5 c6 c7 c8
  have HS : Hid ((fun w' => w'.heap[w.heap.size]? = some (.cells #[.int .i64 kd, .int .i64 S1, .int .i64 O, .int .i64 N, .int .i64 C, .bool F, .string D, .string X, v] 33 (0, 0))) w1.drew) := Lib.hid R1.out
  refine wp_region_held_drew (S := (fun w' => w'.heap[w.heap.size]? = some (.cells #[.int .i64 kd, .int .i64 S1, .int .i64 O, .int .i64 N, .int .i64 C, .bool F, .string D, .string X, v] 33 (0, 0)))) mixedOrders HS.out (fun hHeld => ?_)
  clear hHeld
  refine wpAnyH_take (i := 0) (oi := ⟨some 49, _, _, _, _, _⟩) (v := bv) rfl (by kernel_rfl) (by kernel_rfl) (by kernel_rfl) (fun _ _ _ h => h) (Or.inl ⟨by rfl, fun w' hSw => ?_⟩) HS.out ?_
  · go_simp
  simp only [Act.put, List.setIfInBounds_toArray, List.set_cons_succ, List.set_cons_zero]
  refine wpAnyH_take (i := 1) (oi := ⟨some 50, _, _, _, _, _⟩) (v := .pointer (some ⟨w.heap.size, 6, none⟩)) rfl (by kernel_rfl) (by kernel_rfl) (by kernel_rfl) (fun _ _ _ h => h) (Or.inl ⟨by rfl, fun w' hSw => ?_⟩) HS.out ?_
  · go_simp
  simp only [Act.put, List.setIfInBounds_toArray, List.set_cons_succ, List.set_cons_zero]
  refine wpAnyH_take (i := 2) (oi := ⟨some 51, _, _, _, _, _⟩) (v := .string D) rfl (by kernel_rfl) (by kernel_rfl) (by kernel_rfl) (fun _ _ _ h => h) (Or.inl ⟨by rfl, fun w' hSw => ?_⟩) HS.out ?_
  · obtain ⟨c0, c1, c2, c3, c4, c5, c6, c7, c8⟩ := cells9 hSw
    clear hSw
    go_simp
  simp only [Act.put, List.setIfInBounds_toArray, List.set_cons_succ, List.set_cons_zero]
  refine wpAnyH_take (i := 3) (oi := ⟨some 52, _, _, _, _, _⟩) (v := .int .i64 (m : Int)) rfl (by kernel_rfl) (by kernel_rfl) (by kernel_rfl) (fun _ _ _ h => h) (Or.inl ⟨by rfl, fun w' hSw => ?_⟩) HS.out ?_
  · go_simp
  simp only [Act.put, List.setIfInBounds_toArray, List.set_cons_succ, List.set_cons_zero]
  refine wpAnyH_take (i := 4) (oi := ⟨some 53, _, _, _, _, _⟩) (v := .int .u8 (m : Int)) rfl (by kernel_rfl) (by kernel_rfl) (by kernel_rfl) (fun _ _ _ h => h) (Or.inl ⟨by rfl, fun w' hSw => ?_⟩) HS.out ?_
  · clear hSw
    go_simp
    rw [IntKind.wrap_u8]
    omega
  simp only [Act.put, List.setIfInBounds_toArray, List.set_cons_succ, List.set_cons_zero]
  refine wpAnyH_take (i := 7) (oi := ⟨some 56, _, _, _, _, _⟩) (v := .pointer (some ⟨w.heap.size, 6, none⟩)) rfl (by kernel_rfl) (by kernel_rfl) (by kernel_rfl) (fun _ _ _ h => h) (Or.inl ⟨by rfl, fun w' hSw => ?_⟩) HS.out ?_
  · go_simp
  simp only [Act.put, List.setIfInBounds_toArray, List.set_cons_succ, List.set_cons_zero]
  refine wpAnyH_take (i := 8) (oi := ⟨some 57, _, _, _, _, _⟩) (v := .string D) rfl (by kernel_rfl) (by kernel_rfl) (by kernel_rfl) (fun _ _ _ h => h) (Or.inl ⟨by rfl, fun w' hSw => ?_⟩) HS.out ?_
  · obtain ⟨c0, c1, c2, c3, c4, c5, c6, c7, c8⟩ := cells9 hSw
    clear hSw
    go_simp
  simp only [Act.put, List.setIfInBounds_toArray, List.set_cons_succ, List.set_cons_zero]
  refine wpAnyH_ready (rs := [5]) (by kernel_rfl) (by simp) ?_
  refine AllReadyH.cons (i := 5) rfl (fun K hK => ?_) AllReadyH.nil
  rw [if_pos (by rfl)]
  go_simp
  have S2 := Lib.hid (show Src Tryd.prog 1 28 (.slice (some ⟨w1.heap.size, 0, none⟩) 1 1) 1 (firsts (fun _ => BitVec.ofNat 8 m) 1) (w1.alloc (.cells #[.int .u8 (m : Int)] 5)).drew from SX.out)
  have al := ((Below.refl w1.heap.size w1).alloc (Nat.le_refl _) (.cells #[.int .u8 (m : Int)] 5)).drew
  generalize (w1.alloc _).drew = w2 at *
  have hs2 : w2.heap[w.heap.size]? = some (.cells #[.int .i64 kd, .int .i64 S1, .int .i64 O, .int .i64 N, .int .i64 C, .bool F, .string D, .string X, v] 33 (0, 0)) := (al.block _ (lt_row R1.out)).trans R1.out
  have R2 := Lib.hid hs2
  have P2 := Lib.hid (P1.out.later al)
  have G2 := Lib.hid (G1.out.trans (GrownV.of_below bv al))
  have ne2 := Lib.hid ((O1.out.later al).not hs2 (by decide))
  refine hK.out _ _ hs2 (fun _ => ?_)
  clear hK K hs2 al SX HS
  try simp only [Act.put, List.setIfInBounds_toArray, List.set_cons_succ, List.set_cons_zero]
  refine wpAnyH_ready (rs := [6]) (by kernel_rfl) (by simp) ?_
  refine AllReadyH.cons (i := 6) rfl (fun K hK => ?_) AllReadyH.nil
  refine step_append_bytes (o := ⟨some 55, _, _, _, _, _⟩) (by rfl) _ _ 28 rfl rfl rfl P2.out S2.out (by omega) ?_
  intro v3 w3 ho3 hg3
  have hs3 : w3.heap[w.heap.size]? = some (.cells #[.int .i64 kd, .int .i64 S1, .int .i64 O, .int .i64 N, .int .i64 C, .bool F, .string D, .string X, v] 33 (0, 0)) := (hg3.block (lt_row R2.out) ne2.out).trans R2.out
  have P3 := Lib.hid ho3
  have R3 := Lib.hid hs3
  have G3 := Lib.hid (G2.out.trans hg3)
  have ne3 := Lib.hid ((show OwnS B v3 _ w3 from ⟨_, _, ho3, rfl⟩).not hs3 (by decide))
  refine hK.out _ _ hs3 (fun _ => ?_)
  clear hK K hs3 ho3 hg3
  try simp only [Act.put, List.setIfInBounds_toArray, List.set_cons_succ, List.set_cons_zero]
  refine wpAnyH_ready (rs := [9]) (by kernel_rfl) (by simp) ?_
  refine AllReadyH.cons (i := 9) rfl (fun K hK => ?_) AllReadyH.nil
  refine step_append_bytes (o := ⟨some 58, _, _, _, _, _⟩) (by rfl) _ _ 9 rfl rfl rfl P3.out (SR.out _) (by omega) ?_
  intro v4 w4 ho4 hg4
  have HS := Lib.hid (show w4.heap[w.heap.size]? = some (.cells #[.int .i64 kd, .int .i64 S1, .int .i64 O, .int .i64 N, .int .i64 C, .bool F, .string D, .string X, v] 33 (0, 0)) from (hg4.block (lt_row R3.out) ne3.out).trans R3.out)
  have P4 := Lib.hid ho4
  have G4 := Lib.hid (G3.out.trans hg4)
  clear ho4 hg4
  refine hK.out _ _ HS.out (fun _ => ?_)
  clear hK K
  try simp only [Act.put, List.setIfInBounds_toArray, List.set_cons_succ, List.set_cons_zero]
  refine wpAnyH_take (i := 10) (oi := ⟨some 6, _, _, _, _, _⟩) (v := v4) rfl (by kernel_rfl) (by kernel_rfl) (by kernel_rfl) (fun _ _ _ h => h) (Or.inl ⟨by rfl, fun w' hSw => ?_⟩) HS.out ?_
  · go_simp
  simp only [Act.put, List.setIfInBounds_toArray, List.set_cons_succ, List.set_cons_zero]
  refine wpAnyH_done (by kernel_rfl) ?_ _
  go_wp2_with fail
  go_ret
  exact ⟨_, rfl, ⟨_, _, P4.out, by unfold byteT; rw [HM.out, ← ByteArray.append_assoc, HS1.out, HD.out, joined, joined]⟩, G4.out⟩
set_option maxHeartbeats 8000000 in
theorem appendPart_9 {B : Nat} {bv : Value} {S : ByteArray} (f : Fr) (v : Value) (w0 w : World) (hA : SpansIn w0 v f.A) (h0B : w0.heap.size ≤ B) (h0w : Below w0.heap.size w0 w) (tab0 : Tab w0) (hfit : fitsF f 9) (h : OwnS B bv S w) (hS : S.size ≤ 1000000) :
    Calls Tryd.prog 23 #[.agg (f.cells v), bv, .int .i64 9] w fun e w' => ∃ v', e = .returned v' ∧ OwnS B v' (S ++ appF f 9) w' ∧ GrownV w w' bv v' := by
  have OW := Lib.hid h
  have HF := Lib.hid hfit
  have HA := Lib.hid hA
  have HB0 := Lib.hid h0B
  have H0W := Lib.hid h0w
  have TB0 := Lib.hid tab0
  have TB := Lib.hid (fun (w' : World) (hb : Below B w w') => tab0.later (h0w.trans (hb.mono h0B)))
  clear hA h0B h0w tab0 hfit h
  have AK := Lib.hid (fun (w' : World) (hb : Below w.heap.size w w') => appendAcks_any (B := B) (bv := bv) (S := S) f v w0 w' HA.out HB0.out (H0W.out.trans (hb.mono H0W.out.size)) TB0.out)
  obtain ⟨kd, S1, O, N, C, F, D, X, A⟩ := f
  dsimp only [Fr.cells, appF] at *
  unfold frC at *
  have row := heap_alloc_last w (.cells #[.int .i64 kd, .int .i64 S1, .int .i64 O, .int .i64 N, .int .i64 C, .bool F, .string D, .string X, v] 33)
  have bel := (Below.refl w.heap.size w).alloc (Nat.le_refl _) (.cells #[.int .i64 kd, .int .i64 S1, .int .i64 O, .int .i64 N, .int .i64 C, .bool F, .string D, .string X, v] 33)
  go_enter Tryd.func23, Tryd.ntmps23
  go_upto_region 1 with (fail)
  generalize w.alloc _ = w1 at *
  have O1 := Lib.hid (OW.out.later bel)
  have B1 := Lib.hid bel
  have BB1 := Lib.hid (bel.mono (show B ≤ w.heap.size by obtain ⟨_, _, ho, _⟩ := OW.out; exact ho.base))
  have R1 := Lib.hid row
  have G1 := Lib.hid (GrownV.of_below bv bel)
  obtain ⟨c0, c1, c2, c3, c4, c5, c6, c7, c8⟩ := cells9 row
  clear row bel
  have AN := Lib.hid (AK.out w1 B1.out HF.out.2 HF.out.1 O1.out hS)
  clear AK
  go_wp2_with fail
  with_reducible refine AN.out.mono ?_
  rintro e w3 ⟨v3, rfl, ho3, hg3⟩
  have O3 := Lib.hid ho3
  have G3 := Lib.hid (G1.out.trans hg3)
  clear ho3 hg3 AN c0 c1 c2 c3 c4 c5 c6 c7 c8
  go_wp2_with fail
  go_ret
  exact ⟨_, rfl, O3.out, G3.out⟩
set_option maxHeartbeats 8000000 in
theorem appendPart_5 {B : Nat} {bv : Value} {S : ByteArray} (f : Fr) (v : Value) (w0 w : World) (hA : SpansIn w0 v f.A) (h0B : w0.heap.size ≤ B) (h0w : Below w0.heap.size w0 w) (tab0 : Tab w0) (hfit : fitsF f 5) (h : OwnS B bv S w) (hS : S.size ≤ 1000000) :
    Calls Tryd.prog 23 #[.agg (f.cells v), bv, .int .i64 5] w fun e w' => ∃ v', e = .returned v' ∧ OwnS B v' (S ++ appF f 5) w' ∧ GrownV w w' bv v' := by
  have OW := Lib.hid h
  have HF := Lib.hid hfit
  have HA := Lib.hid hA
  have HB0 := Lib.hid h0B
  have H0W := Lib.hid h0w
  have TB0 := Lib.hid tab0
  have TB := Lib.hid (fun (w' : World) (hb : Below B w w') => tab0.later (h0w.trans (hb.mono h0B)))
  clear hA h0B h0w tab0 hfit h
  have AK := Lib.hid (fun (w' : World) (hb : Below w.heap.size w w') => appendAcks_any (B := B) (bv := bv) (S := S) f v w0 w' HA.out HB0.out (H0W.out.trans (hb.mono H0W.out.size)) TB0.out)
  obtain ⟨kd, S1, O, N, C, F, D, X, A⟩ := f
  dsimp only [Fr.cells, appF] at *
  unfold frC at *
  have row := heap_alloc_last w (.cells #[.int .i64 kd, .int .i64 S1, .int .i64 O, .int .i64 N, .int .i64 C, .bool F, .string D, .string X, v] 33)
  have bel := (Below.refl w.heap.size w).alloc (Nat.le_refl _) (.cells #[.int .i64 kd, .int .i64 S1, .int .i64 O, .int .i64 N, .int .i64 C, .bool F, .string D, .string X, v] 33)
  go_enter Tryd.func23, Tryd.ntmps23
  go_upto_region 1 with (fail)
  generalize w.alloc _ = w1 at *
  have O1 := Lib.hid (OW.out.later bel)
  have B1 := Lib.hid bel
  have BB1 := Lib.hid (bel.mono (show B ≤ w.heap.size by obtain ⟨_, _, ho, _⟩ := OW.out; exact ho.base))
  have R1 := Lib.hid row
  have G1 := Lib.hid (GrownV.of_below bv bel)
  obtain ⟨c0, c1, c2, c3, c4, c5, c6, c7, c8⟩ := cells9 row
  clear row bel
  clear AK c0 c1 c2 c3 c4 c5 c6 c7 c8
  go_wp2_with fail
  go_ret
  exact ⟨_, rfl, by rw [app_nil]; exact O1.out, G1.out⟩
set_option maxHeartbeats 8000000 in
theorem appendPart_10 {B : Nat} {bv : Value} {S : ByteArray} (f : Fr) (v : Value) (w0 w : World) (hA : SpansIn w0 v f.A) (h0B : w0.heap.size ≤ B) (h0w : Below w0.heap.size w0 w) (tab0 : Tab w0) (hfit : fitsF f 10) (h : OwnS B bv S w) (hS : S.size ≤ 1000000) :
    Calls Tryd.prog 23 #[.agg (f.cells v), bv, .int .i64 10] w fun e w' => ∃ v', e = .returned v' ∧ OwnS B v' (S ++ appF f 10) w' ∧ GrownV w w' bv v' := by
  have OW := Lib.hid h
  have HF := Lib.hid hfit
  have HA := Lib.hid hA
  have HB0 := Lib.hid h0B
  have H0W := Lib.hid h0w
  have TB0 := Lib.hid tab0
  have TB := Lib.hid (fun (w' : World) (hb : Below B w w') => tab0.later (h0w.trans (hb.mono h0B)))
  clear hA h0B h0w tab0 hfit h
  have AK := Lib.hid (fun (w' : World) (hb : Below w.heap.size w w') => appendAcks_any (B := B) (bv := bv) (S := S) f v w0 w' HA.out HB0.out (H0W.out.trans (hb.mono H0W.out.size)) TB0.out)
  obtain ⟨kd, S1, O, N, C, F, D, X, A⟩ := f
  dsimp only [Fr.cells, appF] at *
  unfold frC at *
  have row := heap_alloc_last w (.cells #[.int .i64 kd, .int .i64 S1, .int .i64 O, .int .i64 N, .int .i64 C, .bool F, .string D, .string X, v] 33)
  have bel := (Below.refl w.heap.size w).alloc (Nat.le_refl _) (.cells #[.int .i64 kd, .int .i64 S1, .int .i64 O, .int .i64 N, .int .i64 C, .bool F, .string D, .string X, v] 33)
  go_enter Tryd.func23, Tryd.ntmps23
  go_upto_region 1 with (fail)
  generalize w.alloc _ = w1 at *
  have O1 := Lib.hid (OW.out.later bel)
  have B1 := Lib.hid bel
  have BB1 := Lib.hid (bel.mono (show B ≤ w.heap.size by obtain ⟨_, _, ho, _⟩ := OW.out; exact ho.base))
  have R1 := Lib.hid row
  have G1 := Lib.hid (GrownV.of_below bv bel)
  obtain ⟨c0, c1, c2, c3, c4, c5, c6, c7, c8⟩ := cells9 row
  clear row bel
  obtain ⟨n0, f0, ho1, hS0⟩ := O1.out
  rw [hS0, strOf_size] at hS
  have P1 := Lib.hid ho1
  have HS0 := Lib.hid hS0
  obtain ⟨h1, h2⟩ : 1 ≤ N ∧ N ≤ 65535 := HF.out
  obtain ⟨k, hkN⟩ : ∃ k : Nat, N - 1 = (k : Int) := ⟨(N - 1).toNat, by omega⟩
  have hk : k ≤ 65534 := by omega
  have HK := Lib.hid (show N.toNat - 1 = k by omega)
  clear AK ho1 hS0
  go_wp2_with (first
    | (at_builtin; refine wpList_append_noughts (o := ⟨some 82, _, _, _, _, _⟩) k (by omega) (by rfl) _ _ rfl rfl rfl P1.out (by omega) ?_; intro v3 w3 ho3 hg3; have P3 := Lib.hid ho3; have G3 := Lib.hid (G1.out.trans hg3); clear ho3 hg3)
    | fail)
  go_ret
  exact ⟨_, rfl, ⟨_, _, P3.out, by unfold zeroT; rw [HK.out, HS0.out, joined]⟩, G3.out⟩
end Go.Proofs.YtcgbhcmgddgheabDoor
