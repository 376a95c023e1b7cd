/-
  TEXTS PUT TOGETHER: GuardD, GuardE, AesA.
-/
import Derived.Test.YtjbpjoondmcnlabDoorMg13
import Derived.Test.YtjbpjoondmcnlabDoorGdA
import Derived.Test.YtjbpjoondmcnlabDoorGdB
import Derived.Test.YtjbpjoondmcnlabDoorGdC
import Derived.Test.YtjbpjoondmcnlabDoorMg01
set_option maxRecDepth 100000
/-
  guard: the law's first test: RFC 9001's name has its key.
-/
namespace Go.Proofs.YtjbpjoondmcnlabDoor
open Go Go.RowKit Go.BigFrame
set_option linter.unusedSimpArgs false
set_option linter.unusedVariables false
set_option maxRecDepth 100000
theorem gdA_str : strOf (tb gdataA) 8 = ⟨#[131, 148, 200, 240, 62, 81, 87, 8]⟩ := by kernel_rfl
theorem com_bytes : ∀ i, i < 32 → comB (tb gdataA) 8 i = tb gkeyB i := fun i hi => by
  have h := gmacA i hi
  exact h
def cliF : Nat → BitVec 8 := lblB (comB (tb gdataA) 8) 32 32 9 (tb qcin)
theorem lbl_first (K : Nat → BitVec 8) (f : Nat → BitVec 8) (m N l : Nat) (s : Nat → BitVec 8) (L : List Nat) (hK : keyB f m = K) (k : Nat) (hk : 9 + l + 1 + 0 + 1 = k)
    (h : (List.range k).all (fun i => joinb (joinb (fun _ => 0#8) 0 (infoB N l s 0 (fun _ => 0#8))) (0 + (9 + l + 1 + 0)) (fun _ => BitVec.ofNat 8 1) i == tb L i) = true) (i : Nat) (hi : i < 32) : lblB f m N l s i = macB K (tb L) k i := by
  unfold lblB expB
  rw [hK, show i / 32 = 0 by omega, show i % 32 = i by omega]
  show macB K (joinb (joinb (fun _ => 0#8) 0 (infoB N l s 0 (fun _ => 0#8))) (0 + (9 + l + 1 + 0)) (fun _ => BitVec.ofNat 8 (0 + 1))) (0 + (9 + l + 1 + 0) + 1) i = _
  rw [show 0 + (9 + l + 1 + 0) + 1 = k by omega]
  rw [macB_agree (tb_agree _ L k h)]
theorem cli_bytes : ∀ i, i < 32 → cliF i = tb gkeyC i := fun i hi => by
  have e := lbl_first (keyB (tb gkeyB) 32) (comB (tb gdataA) 8) 32 32 9 (tb qcin) gdataB (keyB_agree (by omega) com_bytes) 20 rfl (by kernel_rfl) i hi
  exact e.trans (gmacB i hi)
theorem key_bytes : ∀ i, i < 32 → lblB cliF 32 16 8 (tb qkey) i = tb goutC i := fun i hi => by
  have e := lbl_first (keyB (tb gkeyC) 32) cliF 32 16 8 (tb qkey) gdataC (keyB_agree (by omega) cli_bytes) 19 rfl (by kernel_rfl) i hi
  exact e.trans (gmacC i hi)
theorem key_0 : lblB cliF 32 16 8 (tb qkey) 0 = 31#8 := (key_bytes 0 (by omega)).trans (by kernel_rfl)
theorem key_15 : lblB cliF 32 16 8 (tb qkey) 15 = 45#8 := (key_bytes 15 (by omega)).trans (by kernel_rfl)
end Go.Proofs.YtjbpjoondmcnlabDoor
/-
  guard: the law's guards.
-/
namespace Go.Proofs.YtjbpjoondmcnlabDoor
open Go Go.RowKit Go.BigFrame
set_option linter.unusedSimpArgs false
set_option linter.unusedVariables false
set_option maxRecDepth 100000
theorem guards_any (w : World) (T : TabK w) : Calls Tryd.prog 8 #[] w fun e w' => e = .returned (.bool true) ∧ Below w.heap.size w w' := by
  have F1 := first_ok (tb gdataA) 8 (by omega) w T
  rw [gdA_str] at F1
  have ecli : lblB (comB (tb gdataA) 8) 32 32 9 (tb qcin) = cliF := rfl
  rw [ecli] at F1
  have OF := Lib.hid (fun (w' : World) (hb : Below w.heap.size w w') => of_ok cliF w' (T.later hb))
  have k0 := key_0
  have k15 := key_15
  obtain ⟨KF, hKF⟩ : ∃ KF, lblB cliF 32 16 8 (tb qkey) = KF := ⟨_, rfl⟩
  have ek : keysC cliF = #[.string (strOf (lblB cliF 32 16 8 (tb qkey)) 16), .string (strOf (lblB cliF 32 12 7 (tb qiv)) 12), .string (strOf (lblB cliF 32 16 7 (tb qhp)) 16)] := rfl
  rw [ek] at OF
  rw [hKF] at OF k0 k15
  have i0 := Lib.hid (fun w' => (show (Instr.index 9 (.string (strOf KF 16)) (.int .i64 0)).run Tryd.prog w' = .ok (.int .u8 31) w' from by
    have h := strOf_at KF 16 0 (by omega) w'
    rw [k0, show n8 31#8 = 31 by unfold n8; rfl] at h
    exact h))
  have i15 := Lib.hid (fun w' => (show (Instr.index 9 (.string (strOf KF 16)) (.int .i64 15)).run Tryd.prog w' = .ok (.int .u8 45) w' from by
    have h := strOf_at KF 16 15 (by omega) w'
    rw [k15, show n8 45#8 = 45 by unfold n8; rfl] at h
    exact h))
  have zk := strOf_size KF 16
  have L := Lib.hid F1
  clear F1 ecli ek k0 k15 hKF T
  generalize strOf KF 16 = KS at *
  generalize strOf (lblB cliF 32 12 7 (tb qiv)) 12 = R2 at *
  generalize strOf (lblB cliF 32 16 7 (tb qhp)) 16 = R3 at *
  generalize strOf (lblB (comB (tb gdataA) 8) 32 32 9 (tb qsin)) 32 = R4 at *
  generalize strOf cliF 32 = SC at *
  go_enter Tryd.func8, Tryd.ntmps8
  go_wp2_with fail
  with_reducible refine L.out.mono ?_
  rintro e w1 ⟨rfl, hb1⟩
  have B1 := Lib.hid hb1
  clear hb1 L
  go_wp2_with fail
  with_reducible refine (OF.out w1 B1.out).mono ?_
  rintro e w2 ⟨rfl, hb2⟩
  have B2 := Lib.hid (B1.out.trans (hb2.mono B1.out.size))
  clear hb2 OF
  have hal : Below w2.heap.size w2 (w2.alloc (.cells #[.string KS, .string R2, .string R3] 34)) := (Below.refl _ _).alloc (Nat.le_refl _) _
  have hal2 : (w2.alloc (.cells #[.string KS, .string R2, .string R3] 34)).heap[w2.heap.size]? = some (.cells #[.string KS, .string R2, .string R3] 34 (0, 0)) := heap_alloc_last _ _
  go_upto_region 3 with (refine wpList_store_new (o := ⟨none, .store 34 (.tmp 4) (.tmp 14), _, _, _, _⟩) rfl 34 _ _ rfl noKeys #[.string KS, .string R2, .string R3] _ rfl rfl rfl (by kernel_rfl) rfl (by kernel_rfl) ?_)
  have B3 := Lib.hid (B2.out.trans (hal.mono B2.out.size))
  obtain ⟨w3, hw3⟩ : ∃ w3, w2.alloc (.cells #[.string KS, .string R2, .string R3] 34) = w3 := ⟨_, rfl⟩
  rw [hw3] at hal2 B3
  simp only [hw3]
  generalize w2.heap.size = q at *
  have c0 : w3.cell? ⟨q, 0, none⟩ = some (.string KS) := by rw [cell_of_row _ _ _ _ _ _ hal2]; rfl
  clear hal hal2 hw3
  have x0 := i0.out w3
  have x15 := i15.out w3
  go_wp2_with fail
  go_ret
  exact ⟨rfl, B3.out⟩
end Go.Proofs.YtjbpjoondmcnlabDoor
/-
  THE CALLS OF PACKAGE aes, FIRST PART: rotations, the double, a column mixed, two blocks put together, a block with each byte substituted.
-/
namespace Go.Proofs.YtjbpjoondmcnlabDoor
open Go Go.RowKit Go.BigFrame
def rotl (x : BitVec 32) (s : Nat) : BitVec 32 := x <<< s ||| x >>> (32 - s)
def dbl (w : BitVec 32) : BitVec 32 := (w &&& 0x7f7f7f7f#32) <<< 1 ^^^ ((w >>> 7) &&& 0x01010101#32) * 0x1b#32
def mix (w : BitVec 32) : BitVec 32 := dbl (w ^^^ rotl w 8) ^^^ rotl w 8 ^^^ rotl w 16 ^^^ rotl w 24
set_option maxHeartbeats 400000 in
theorem rot_any (x : BitVec 32) (k : Int) (s : Nat) (w : World) (hk : bits .and .u64 (IntKind.u64.wrap k) 31 = (s : Int)) (h1 : s ≤ 31) :
    Calls Tryd.prog 86 #[.int .u32 (n32 x), .int .i64 k] w fun e w' => e = .returned (.int .u32 (n32 (rotl x s))) ∧ w' = w := by
  have h3 : (s : Int) ≤ 32 := by omega
  have h4 : ((32 : Int) - s).toNat = 32 - s := by omega
  have H4 := Lib.hid h4; clear h4
  go_enter Tryd.func86, Tryd.ntmps86
  go_wp2
  go_ret
  exact ⟨ret_u32 (by unfold rotl; first | rfl | (rw [H4.out]; rfl)), rfl⟩
set_option maxHeartbeats 400000 in
theorem double_any (x : BitVec 32) (w : World) :
    Calls Tryd.prog 68 #[.int .u32 (n32 x)] w fun e w' => e = .returned (.int .u32 (n32 (dbl x))) ∧ w' = w := by
  go_enter Tryd.func68, Tryd.ntmps68
  go_wp2
  go_ret
  exact ⟨ret_u32 rfl, rfl⟩
set_option maxHeartbeats 400000 in
theorem mixed_any (x : BitVec 32) (w : World) :
    Calls Tryd.prog 89 #[.int .u32 (n32 x)] w fun e w' => e = .returned (.int .u32 (n32 (mix x))) ∧ w' = w := by
  have r8 := fun w => rot_any x 8 8 w (by decide) (by decide)
  have r16 := fun w => rot_any x 16 16 w (by decide) (by decide)
  have r24 := fun w => rot_any x 24 24 w (by decide) (by decide)
  have R8 := Lib.hid r8; have R16 := Lib.hid r16; have R24 := Lib.hid r24
  clear r8 r16 r24
  go_enter Tryd.func89, Tryd.ntmps89
  go_wp2_with fail
  refine (R8.out _).mono ?_; rintro e w' ⟨rfl, rfl⟩
  go_wp2_with (go_at_call 68; refine (double_any _ _).mono ?_; rintro e w' ⟨rfl, rfl⟩)
  refine (R16.out _).mono ?_; rintro e w' ⟨rfl, rfl⟩
  go_wp2_with fail
  refine (R24.out _).mono ?_; rintro e w' ⟨rfl, rfl⟩
  go_wp2_with fail
  go_ret
  exact ⟨ret_u32 rfl, rfl⟩
/-- Four words: a block. -/
structure W4 where
  a : BitVec 32
  b : BitVec 32
  c : BitVec 32
  d : BitVec 32
def W4.val (x : W4) : Value := .agg #[.int .u32 (n32 x.a), .int .u32 (n32 x.b), .int .u32 (n32 x.c), .int .u32 (n32 x.d)]
def W4.xor (x y : W4) : W4 := ⟨x.a ^^^ y.a, x.b ^^^ y.b, x.c ^^^ y.c, x.d ^^^ y.d⟩
/-- One word of a block that is substituted by T: its bytes from four words. -/
def subw (T : Nat → BitVec 8) (a b c d : BitVec 32) : BitVec 32 :=
  (T (ix32 (a >>> 24))).setWidth 32 <<< 24 ||| (T (ix32 (b >>> 16 &&& 255#32))).setWidth 32 <<< 16 ||| (T (ix32 (c >>> 8 &&& 255#32))).setWidth 32 <<< 8 ||| (T (ix32 (d &&& 255#32))).setWidth 32
def W4.shift (T : Nat → BitVec 8) (x : W4) : W4 := ⟨subw T x.a x.b x.c x.d, subw T x.b x.c x.d x.a, subw T x.c x.d x.a x.b, subw T x.d x.a x.b x.c⟩
set_option maxHeartbeats 4000000 in
theorem together_any (a0 a1 a2 a3 b0 b1 b2 b3 : BitVec 32) (w : World) :
    Calls Tryd.prog 87 #[.agg #[.int .u32 (n32 a0), .int .u32 (n32 a1), .int .u32 (n32 a2), .int .u32 (n32 a3)], .agg #[.int .u32 (n32 b0), .int .u32 (n32 b1), .int .u32 (n32 b2), .int .u32 (n32 b3)]] w
      fun e w' => e = .returned (W4.xor ⟨a0, a1, a2, a3⟩ ⟨b0, b1, b2, b3⟩).val ∧ Below w.heap.size w w' := by
  go_enter Tryd.func87, Tryd.ntmps87
  go_wp2
  refine wp_loop_rounds 5 ?_
  iterate 4
    (rw [rounds_succ]
     go_wp2
     refine region_head 8 mixedOrders (by kernel_rfl) ?_
     simp only [List.take_succ_cons, List.take_zero, List.drop_succ_cons, List.drop_zero]
     repeat (go_big_quiet_step (fail))
     refine wpQuiet_nil ?_
     go_wp2)
  rw [rounds_succ]
  go_wp2
  refine bodyPost_ret (v := (W4.xor ⟨a0, a1, a2, a3⟩ ⟨b0, b1, b2, b3⟩).val) (by simp [results, Tryd.results87, go_sem, W4.val, W4.xor]) rfl ⟨rfl, ?_⟩
  repeat (first | exact Below.refl _ _ | apply Below.drew | refine Below.alloc ?_ (by simp; try omega) _)
set_option maxHeartbeats 4000000 in
theorem shifted_any (T : Nat → BitVec 8) (q : Nat) (a0 a1 a2 a3 : BitVec 32) (w : World) (hT : ∀ i, i < 256 → w.cell? ⟨q, i, none⟩ = some (.int .u8 (n8 (T i)))) (hq : q < w.heap.size) :
    Calls Tryd.prog 88 #[.pointer (some ⟨q, 0, none⟩), .agg #[.int .u32 (n32 a0), .int .u32 (n32 a1), .int .u32 (n32 a2), .int .u32 (n32 a3)]] w
      fun e w' => e = .returned (W4.shift T ⟨a0, a1, a2, a3⟩).val ∧ Below w.heap.size w w' := by
  have q1 : q < w.heap.size + 1 := by omega
  have q2 : q < w.heap.size + 1 + 1 := by omega
  have q3 : q ≤ w.heap.size := by omega
  have q4 : q ≤ w.heap.size + 1 := by omega
  go_enter Tryd.func88, Tryd.ntmps88
  go_wp2
  refine wp_loop_rounds 5 ?_
  iterate 4
    (rw [rounds_succ]
     go_wp2
     refine region_head 52 mixedOrders (by kernel_rfl) ?_
     simp only [List.take_succ_cons, List.take_zero, List.drop_succ_cons, List.drop_zero]
     repeat (go_big_quiet_step (fail))
     refine wpQuiet_nil ?_
     go_wp2)
  rw [rounds_succ]
  go_wp2
  refine bodyPost_ret (v := (W4.shift T ⟨a0, a1, a2, a3⟩).val) (by simp [results, Tryd.results88, go_sem, W4.val, W4.shift, subw]) rfl ⟨rfl, ?_⟩
  repeat (first | exact Below.refl _ _ | apply Below.drew | refine Below.alloc ?_ (by simp; try omega) _)
end Go.Proofs.YtjbpjoondmcnlabDoor
