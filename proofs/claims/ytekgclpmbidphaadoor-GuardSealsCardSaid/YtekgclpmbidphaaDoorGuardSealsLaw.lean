/-
  Of all keys, heads, numbers and what is carried Seal tells what the chapter does; the table of sha's constants holds what the program's text lays.
-/
import Derived.Test.YtekgclpmbidphaaDoorRows
import Derived.Test.YtekgclpmbidphaaDoorCards
import Derived.Test.YtekgclpmbidphaaDoorTie
import Derived.Test.YtekgclpmbidphaaDoorMg01
import Derived.Test.YtekgclpmbidphaaDoorGsJ
import Derived.Test.YtekgclpmbidphaaDoorMg07
import Derived.WalkKit
import Derived.ProofKit
import Derived.OpenShut
import Derived.ShutString
import Derived.ChangeOld
import Derived.Below
import Derived.Deep.DeepCutAuto
import Derived.Deep.Upon
import Derived.Deep.AppendSrc
import Derived.SevenTiedAt
import Derived.LaidMore
import Derived.SizedLaws
import Derived.Lib.SmallJoins
namespace Go.Proofs.YtekgclpmbidphaaDoor.guardSeals
open Go Go.ChangeShapes Go.WideShapes Go.ChangeAt Go.RowKit Go.BigFrame
set_option linter.unusedVariables false
set_option maxRecDepth 100000 in
set_option maxHeartbeats 16000000 in
theorem law_any (K I M Hd C : ByteArray) (S N E : Int) (F : Bool) (hS0 : 0 - 9223372036854775808 ≤ S) (hS1 : S ≤ 9223372036854775807) (w : World) (T : TabK w) :
    Calls Tryd.prog 3 #[.agg (pkC K I M Hd S N C E F)] w fun e w' => e = .returned (.bool true) ∧ Below w.heap.size w w' := by
  obtain ⟨hf, hHd⟩ := str_of Hd Hd.size rfl
  obtain ⟨xs, hC⟩ := str_of C C.size rfl
  generalize Hd.size = hn at *
  generalize C.size = cn at *
  subst hHd hC
  have R0 : (w.alloc (.cells (pkC K I M (strOf hf hn) S N (strOf xs cn) E F) 25)).heap[w.heap.size]? = some (.cells (pkC K I M (strOf hf hn) S N (strOf xs cn) E F) 25 (0, 0)) := heap_alloc_last _ _
  have hb1 : Below w.heap.size w (w.alloc (.cells (pkC K I M (strOf hf hn) S N (strOf xs cn) E F) 25)) := (Below.refl w.heap.size w).alloc (Nat.le_refl _) _
  have HL := Lib.hid (show w.heap.size < (w.alloc (.cells (pkC K I M (strOf hf hn) S N (strOf xs cn) E F) 25)).heap.size by simp)
  have CC := Lib.hid (pk_cells R0)
  have GD := Lib.hid (guards_any (w.alloc (.cells (pkC K I M (strOf hf hn) S N (strOf xs cn) E F) 25)) (T.later hb1))
  have HB := Lib.hid hb1
  have FT := Lib.hid (fun w' => fit_any K I M (strOf xs cn) hf hn S N E F w')
  have hk : min cn 150 ≤ cn := by omega
  have su := Lib.hid (fun w' => run_str_upto xs cn (min cn 150) (if (150 : Int) < (cn : Int) then (150 : Int) else (cn : Int)) (by split <;> omega) hk w')
  have hsz := strOf_size xs cn
  have hk2 : min cn 150 ≤ 150 := by omega
  generalize min cn 150 = cm at *
  have SB := Lib.hid (fun (f : Nat → BitVec 8) (m : Nat) (hm : m ≤ 64) (w' : World) => seals_both K I M f xs m cm (by omega) (by omega) S N hS0 hS1 w')
  have CX := Lib.hid (fun (w' : World) => conv_ownZ xs cm (by omega) w' w'.heap.size (Nat.le_refl _))
  clear R0 hb1 T
  unfold pkC kysC at *
  generalize strOf hf hn = SH at *
  generalize strOf xs cn = SC at *
  generalize strOf xs cm = SX at *
  go_enter Tryd.func3, Tryd.ntmps3
  go_upto_region 3 with (go_at_call 8; refine GD.out.mono ?_; rintro e w1 ⟨rfl, hb⟩; have B1 := Lib.hid (HB.out.trans (hb.mono HB.out.size)); have L1 := Lib.hid (Nat.lt_of_lt_of_le HL.out hb.size); have K1 := Lib.hid (fun (i : Nat) => hb.cell (p := ⟨w.heap.size, i, none⟩) HL.out); clear hb)
  have C1 := Lib.hid (show w1.cell? ⟨w.heap.size, 0, none⟩ = some (.string K) ∧ w1.cell? ⟨w.heap.size, 1, none⟩ = some (.string I) ∧ w1.cell? ⟨w.heap.size, 2, none⟩ = some (.string M) ∧ w1.cell? ⟨w.heap.size, 3, none⟩ = some (.string SH) ∧ w1.cell? ⟨w.heap.size, 4, none⟩ = some (.int .i64 S) ∧ w1.cell? ⟨w.heap.size, 5, none⟩ = some (.int .i64 N) ∧ w1.cell? ⟨w.heap.size, 6, none⟩ = some (.string SC) ∧ w1.cell? ⟨w.heap.size, 7, none⟩ = some (.int .i64 E) ∧ w1.cell? ⟨w.heap.size, 8, none⟩ = some (.bool F) from
    ⟨(K1.out 0).trans CC.out.1, (K1.out 1).trans CC.out.2.1, (K1.out 2).trans CC.out.2.2.1, (K1.out 3).trans CC.out.2.2.2.1, (K1.out 4).trans CC.out.2.2.2.2.1, (K1.out 5).trans CC.out.2.2.2.2.2.1, (K1.out 6).trans CC.out.2.2.2.2.2.2.1, (K1.out 7).trans CC.out.2.2.2.2.2.2.2.1, (K1.out 8).trans CC.out.2.2.2.2.2.2.2.2⟩)
  clear GD HB HL CC K1
  refine region_anyM mixedOrders ?_
  refine anyM_take (i := 0) (oi := ⟨some 11, _, _, _, _, _⟩) (v := .agg #[.string K, .string I, .string M, .string SH, .int .i64 S, .int .i64 N, .string SC, .int .i64 E, .bool F]) rfl (by kernel_rfl) (by kernel_rfl) (by kernel_rfl) (fun _ _ _ h => h) (.inl ⟨by rfl, fun w2 hw2 => ?_⟩) ?_
  · have hx : Below w1.drew.heap.size w1.drew w2 := hw2
    have c0 := (hx.cell (p := ⟨w.heap.size, 0, none⟩) L1.out).trans C1.out.1
    have c1 := (hx.cell (p := ⟨w.heap.size, 1, none⟩) L1.out).trans C1.out.2.1
    have c2 := (hx.cell (p := ⟨w.heap.size, 2, none⟩) L1.out).trans C1.out.2.2.1
    have c3 := (hx.cell (p := ⟨w.heap.size, 3, none⟩) L1.out).trans C1.out.2.2.2.1
    have c4 := (hx.cell (p := ⟨w.heap.size, 4, none⟩) L1.out).trans C1.out.2.2.2.2.1
    have c5 := (hx.cell (p := ⟨w.heap.size, 5, none⟩) L1.out).trans C1.out.2.2.2.2.2.1
    have c6 := (hx.cell (p := ⟨w.heap.size, 6, none⟩) L1.out).trans C1.out.2.2.2.2.2.2.1
    have c7 := (hx.cell (p := ⟨w.heap.size, 7, none⟩) L1.out).trans C1.out.2.2.2.2.2.2.2.1
    have c8 := (hx.cell (p := ⟨w.heap.size, 8, none⟩) L1.out).trans C1.out.2.2.2.2.2.2.2.2
    clear hx hw2
    go_simp
  simp only [Act.put, List.setIfInBounds_toArray, List.set_cons_succ, List.set_cons_zero]
  refine anyM_take (i := 2) (oi := ⟨some 13, _, _, _, _, _⟩) (v := .pointer (some ⟨w.heap.size, 6, none⟩)) rfl (by kernel_rfl) (by kernel_rfl) (by kernel_rfl) (fun _ _ _ h => h) (.inl ⟨by rfl, fun w2 hw2 => ?_⟩) ?_
  · clear hw2
    go_simp
  simp only [Act.put, List.setIfInBounds_toArray, List.set_cons_succ, List.set_cons_zero]
  refine anyM_take (i := 3) (oi := ⟨some 14, _, _, _, _, _⟩) (v := .string SC) rfl (by kernel_rfl) (by kernel_rfl) (by kernel_rfl) (fun _ _ _ h => h) (.inl ⟨by rfl, fun w2 hw2 => ?_⟩) ?_
  · have c6 := ((show Below w1.drew.heap.size w1.drew w2 from hw2).cell (p := ⟨w.heap.size, 6, none⟩) L1.out).trans C1.out.2.2.2.2.2.2.1
    clear hw2
    go_simp
  simp only [Act.put, List.setIfInBounds_toArray, List.set_cons_succ, List.set_cons_zero]
  refine anyM_take (i := 4) (oi := ⟨some 15, _, _, _, _, _⟩) (v := .pointer (some ⟨w.heap.size, 6, none⟩)) rfl (by kernel_rfl) (by kernel_rfl) (by kernel_rfl) (fun _ _ _ h => h) (.inl ⟨by rfl, fun w2 hw2 => ?_⟩) ?_
  · clear hw2
    go_simp
  simp only [Act.put, List.setIfInBounds_toArray, List.set_cons_succ, List.set_cons_zero]
  refine anyM_take (i := 5) (oi := ⟨some 16, _, _, _, _, _⟩) (v := .string SC) rfl (by kernel_rfl) (by kernel_rfl) (by kernel_rfl) (fun _ _ _ h => h) (.inl ⟨by rfl, fun w2 hw2 => ?_⟩) ?_
  · have c6 := ((show Below w1.drew.heap.size w1.drew w2 from hw2).cell (p := ⟨w.heap.size, 6, none⟩) L1.out).trans C1.out.2.2.2.2.2.2.1
    clear hw2
    go_simp
  simp only [Act.put, List.setIfInBounds_toArray, List.set_cons_succ, List.set_cons_zero]
  refine anyM_take (i := 6) (oi := ⟨some 17, _, _, _, _, _⟩) (v := .int .i64 (cn : Int)) rfl (by kernel_rfl) (by kernel_rfl) (by kernel_rfl) (fun _ _ _ h => h) (.inl ⟨by rfl, fun w2 hw2 => ?_⟩) ?_
  · clear hw2
    go_simp
  simp only [Act.put, List.setIfInBounds_toArray, List.set_cons_succ, List.set_cons_zero]
  refine anyM_take (i := 7) (oi := ⟨some 18, _, _, _, _, _⟩) (v := .int .i64 (if (150 : Int) < (cn : Int) then (150 : Int) else (cn : Int))) rfl (by kernel_rfl) (by kernel_rfl) (by kernel_rfl) (fun _ _ _ h => h) (.inl ⟨by rfl, fun w2 hw2 => ?_⟩) ?_
  · clear hw2
    go_simp
  simp only [Act.put, List.setIfInBounds_toArray, List.set_cons_succ, List.set_cons_zero]
  refine anyM_take (i := 8) (oi := ⟨some 19, _, _, _, _, _⟩) (v := .string SX) rfl (by kernel_rfl) (by kernel_rfl) (by kernel_rfl) (fun _ _ _ h => h) (.inl ⟨by rfl, fun w2 hw2 => ?_⟩) ?_
  · have hsu := su.out
    clear hw2
    go_simp
  simp only [Act.put, List.setIfInBounds_toArray, List.set_cons_succ, List.set_cons_zero]
  refine anyM_call (i := 1) (o := ⟨some 12, _, _, _, _, _⟩) 9 #[.agg #[.string K, .string I, .string M, .string SH, .int .i64 S, .int .i64 N, .string SC, .int .i64 E, .bool F]] (by kernel_rfl) rfl (by rfl) (fun w2 => by go_simp) (fun w2 hw2 => ?_)
  have b2 : Below w1.drew.heap.size w1.drew w2 := hw2
  refine (FT.out w2).mono ?_
  rintro e w3 ⟨gh, hm, rfl, hm64, hb3⟩
  refine ⟨_, rfl, hb3, ?_⟩
  have b3 := Lib.hid (b2.trans (hb3.mono b2.size))
  clear b2 hw2 hb3 FT
  simp only [Act.put, List.setIfInBounds_toArray, List.set_cons_succ, List.set_cons_zero]
  have SB2 := Lib.hid (SB.out gh hm hm64)
  have CH := Lib.hid (fun (w' : World) => conv_ownZ gh hm (by omega) w' w'.heap.size (Nat.le_refl _))
  generalize strOf gh hm = SG at *
  clear SB
  refine anyM_take (i := 9) (oi := ⟨some 3, _, _, _, _, _⟩) (v := .string SG) rfl (by kernel_rfl) (by kernel_rfl) (by kernel_rfl) (fun _ _ _ h => h) (.inl ⟨by rfl, fun w2 hw2 => ?_⟩) ?_
  · clear hw2
    go_simp
  simp only [Act.put, List.setIfInBounds_toArray, List.set_cons_succ, List.set_cons_zero]
  refine anyM_take (i := 10) (oi := ⟨some 4, _, _, _, _, _⟩) (v := .string SX) rfl (by kernel_rfl) (by kernel_rfl) (by kernel_rfl) (fun _ _ _ h => h) (.inl ⟨by rfl, fun w2 hw2 => ?_⟩) ?_
  · clear hw2
    go_simp
  simp only [Act.put, List.setIfInBounds_toArray, List.set_cons_succ, List.set_cons_zero]
  refine anyM_done (by kernel_rfl) (fun w4 hw4 => ?_)
  have b4 := b3.out.trans (Below.mono (show Below w3.heap.size w3 w4 from hw4) b3.out.size)
  have c0 := (b4.cell (p := ⟨w.heap.size, 0, none⟩) L1.out).trans C1.out.1
  have c1 := (b4.cell (p := ⟨w.heap.size, 1, none⟩) L1.out).trans C1.out.2.1
  have c2 := (b4.cell (p := ⟨w.heap.size, 2, none⟩) L1.out).trans C1.out.2.2.1
  have c4 := (b4.cell (p := ⟨w.heap.size, 4, none⟩) L1.out).trans C1.out.2.2.2.2.1
  have c5 := (b4.cell (p := ⟨w.heap.size, 5, none⟩) L1.out).trans C1.out.2.2.2.2.2.1
  have C3 := Lib.hid (And.intro c0 (And.intro c1 (And.intro c2 (And.intro c4 c5))))
  have L3 := Lib.hid (Nat.lt_of_lt_of_le L1.out b4.size)
  have B4 := Lib.hid (B1.out.drew.trans (b4.mono B1.out.drew.size))
  clear b3 b4 hw4 B1 su C1 L1
  go_upto_region 5 with (go_at_call 10; refine (SB2.out _).mono ?_; rintro e w5 ⟨TT, r, rfl, hb5, st⟩; have B5 := Lib.hid (B4.out.trans (hb5.mono B4.out.size)); have ST := Lib.hid st; have K5 := Lib.hid (fun (i : Nat) => hb5.cell (p := ⟨w.heap.size, i, none⟩) L3.out); have L5 := Lib.hid (Nat.lt_of_lt_of_le L3.out hb5.size); clear hb5 st)
  clear c0 c1 c2 c4 c5 SB2 B4
  have CD := Lib.hid (show w5.cell? ⟨w.heap.size, 0, none⟩ = some (.string K) ∧ w5.cell? ⟨w.heap.size, 1, none⟩ = some (.string I) ∧ w5.cell? ⟨w.heap.size, 2, none⟩ = some (.string M) ∧ w5.cell? ⟨w.heap.size, 4, none⟩ = some (.int .i64 S) ∧ w5.cell? ⟨w.heap.size, 5, none⟩ = some (.int .i64 N) from
    ⟨(K5.out 0).trans C3.out.1, (K5.out 1).trans C3.out.2.1, (K5.out 2).trans C3.out.2.2.1, (K5.out 4).trans C3.out.2.2.2.1, (K5.out 5).trans C3.out.2.2.2.2⟩)
  clear C3 L3 K5
  refine region_anyM mixedOrders ?_
  refine anyM_take (i := 0) (oi := ⟨some 33, _, _, _, _, _⟩) (v := .pointer (some ⟨w.heap.size, 0, none⟩)) rfl (by kernel_rfl) (by kernel_rfl) (by kernel_rfl) (fun _ _ _ h => h) (.inl ⟨by rfl, fun w2 hw2 => ?_⟩) ?_
  · clear hw2
    go_simp
  simp only [Act.put, List.setIfInBounds_toArray, List.set_cons_succ, List.set_cons_zero]
  refine anyM_take (i := 1) (oi := ⟨some 34, _, _, _, _, _⟩) (v := .agg #[.string K, .string I, .string M]) rfl (by kernel_rfl) (by kernel_rfl) (by kernel_rfl) (fun _ _ _ h => h) (.inl ⟨by rfl, fun w2 hw2 => ?_⟩) ?_
  · have hx : Below w5.drew.heap.size w5.drew w2 := hw2
    have c0 := (hx.cell (p := ⟨w.heap.size, 0, none⟩) L5.out).trans CD.out.1
    have c1 := (hx.cell (p := ⟨w.heap.size, 1, none⟩) L5.out).trans CD.out.2.1
    have c2 := (hx.cell (p := ⟨w.heap.size, 2, none⟩) L5.out).trans CD.out.2.2.1
    clear hx hw2
    go_simp
  simp only [Act.put, List.setIfInBounds_toArray, List.set_cons_succ, List.set_cons_zero]
  refine anyM_take (i := 2) (oi := ⟨some 35, _, _, _, _, _⟩) (v := .agg #[.string K, .string I, .string M]) rfl (by kernel_rfl) (by kernel_rfl) (by kernel_rfl) (fun _ _ _ h => h) (.inl ⟨by rfl, fun w2 hw2 => ?_⟩) ?_
  · go_simp
    go_at_call 12
    refine (to_any K I M w2).mono ?_
    rintro e w6 ⟨rfl, hb6⟩
    exact ⟨rfl, hb6⟩
  simp only [Act.put, List.setIfInBounds_toArray, List.set_cons_succ, List.set_cons_zero]
  refine anyM_take (i := 3) (oi := ⟨some 36, _, _, _, _, _⟩) (v := .string SG) rfl (by kernel_rfl) (by kernel_rfl) (by kernel_rfl) (fun _ _ _ h => h) (.inl ⟨by rfl, fun w2 hw2 => ?_⟩) ?_
  · clear hw2
    go_simp
  simp only [Act.put, List.setIfInBounds_toArray, List.set_cons_succ, List.set_cons_zero]
  refine anyM_take (i := 5) (oi := ⟨some 38, _, _, _, _, _⟩) (v := .pointer (some ⟨w.heap.size, 4, none⟩)) rfl (by kernel_rfl) (by kernel_rfl) (by kernel_rfl) (fun _ _ _ h => h) (.inl ⟨by rfl, fun w2 hw2 => ?_⟩) ?_
  · clear hw2
    go_simp
  simp only [Act.put, List.setIfInBounds_toArray, List.set_cons_succ, List.set_cons_zero]
  refine anyM_take (i := 6) (oi := ⟨some 39, _, _, _, _, _⟩) (v := .int .i64 S) rfl (by kernel_rfl) (by kernel_rfl) (by kernel_rfl) (fun _ _ _ h => h) (.inl ⟨by rfl, fun w2 hw2 => ?_⟩) ?_
  · have c4 := ((show Below w5.drew.heap.size w5.drew w2 from hw2).cell (p := ⟨w.heap.size, 4, none⟩) L5.out).trans CD.out.2.2.2.1
    clear hw2
    go_simp
  simp only [Act.put, List.setIfInBounds_toArray, List.set_cons_succ, List.set_cons_zero]
  refine anyM_take (i := 7) (oi := ⟨some 40, _, _, _, _, _⟩) (v := .pointer (some ⟨w.heap.size, 5, none⟩)) rfl (by kernel_rfl) (by kernel_rfl) (by kernel_rfl) (fun _ _ _ h => h) (.inl ⟨by rfl, fun w2 hw2 => ?_⟩) ?_
  · clear hw2
    go_simp
  simp only [Act.put, List.setIfInBounds_toArray, List.set_cons_succ, List.set_cons_zero]
  refine anyM_take (i := 8) (oi := ⟨some 41, _, _, _, _, _⟩) (v := .int .i64 N) rfl (by kernel_rfl) (by kernel_rfl) (by kernel_rfl) (fun _ _ _ h => h) (.inl ⟨by rfl, fun w2 hw2 => ?_⟩) ?_
  · have c5 := ((show Below w5.drew.heap.size w5.drew w2 from hw2).cell (p := ⟨w.heap.size, 5, none⟩) L5.out).trans CD.out.2.2.2.2
    clear hw2
    go_simp
  simp only [Act.put, List.setIfInBounds_toArray, List.set_cons_succ, List.set_cons_zero]
  refine anyM_take (i := 9) (oi := ⟨some 42, _, _, _, _, _⟩) (v := .string SX) rfl (by kernel_rfl) (by kernel_rfl) (by kernel_rfl) (fun _ _ _ h => h) (.inl ⟨by rfl, fun w2 hw2 => ?_⟩) ?_
  · clear hw2
    go_simp
  simp only [Act.put, List.setIfInBounds_toArray, List.set_cons_succ, List.set_cons_zero]
  refine anyM_two (i := 4) (j := 10) (o := ⟨some 37, _, _, _, _, _⟩) (o' := ⟨some 43, _, _, _, _, _⟩) (by kernel_rfl) rfl rfl (by rfl) (by rfl) ?_ ?_
  · intro w2 hw2
    have b2 : Below w5.drew.heap.size w5.drew w2 := hw2
    obtain ⟨v6, w6, hcv, o6, b6⟩ := CH.out w2
    obtain ⟨ah, ch, rfl, hch, hchm, inh⟩ := o6.bytes'
    refine ⟨.slice ah hm ch, w6, by go_simp, b6, ?_⟩
    have b26 := Lib.hid (b2.trans (b6.mono b2.size))
    have IN6 := Lib.hid inh
    clear hcv o6 b6 b2 hw2 inh
    simp only [Act.put, List.setIfInBounds_toArray, List.set_cons_succ, List.set_cons_zero]
    refine anyM_only (i := 10) (o := ⟨some 43, _, _, _, _, _⟩) (by kernel_rfl) rfl (by rfl) ?_
    intro w7 hw7
    have b7 : Below w6.heap.size w6 w7 := hw7
    obtain ⟨v8, wz, hcv, o8, b8⟩ := CX.out w7
    obtain ⟨ax, cx, rfl, hcx, hcxm, inx⟩ := o8.bytes'
    refine ⟨.slice ax cm cx, wz, by go_simp, b8, ?_⟩
    have b78 := b7.trans (b8.mono b7.size)
    have INH := Lib.hid (bytesIn_later IN6.out b78)
    have INX := Lib.hid inx
    have b58 := b26.out.trans (b78.mono b26.out.size)
    have BZ := Lib.hid (B5.out.drew.trans (b58.mono B5.out.drew.size))
    clear hcv o8 b8 b78 b58 b7 hw7 b26 IN6 inx
    simp only [Act.put, List.setIfInBounds_toArray, List.set_cons_succ, List.set_cons_zero]
    refine anyM_call (i := 11) (o := ⟨some 44, _, _, _, _, _⟩) 11 #[.agg #[.string K, .string I, .string M], .slice ah hm ch, .int .i64 S, .int .i64 N, .slice ax cm cx] (by kernel_rfl) rfl (by rfl) (fun w2 => by go_simp) (fun wa hwa => ?_)
    have ba : Below wz.heap.size wz wa := hwa
    refine (ST.out wa ah ax ch cx hch hchm (bytesIn_later INH.out ba) (bytesIn_later INX.out ba)).mono ?_
    rintro e wb ⟨bb, m2, c3, gg, rfl, inb, hTT, hbb⟩
    refine ⟨_, rfl, hbb, ?_⟩
    have IB := Lib.hid inb
    have bza := BZ.out.trans (ba.mono BZ.out.size)
    have BB := Lib.hid (bza.trans (hbb.mono bza.size))
    have HT := Lib.hid hTT
    clear inb hbb ba hwa bza INH INX BZ ST hTT
    simp only [Act.put, List.setIfInBounds_toArray, List.set_cons_succ, List.set_cons_zero]
    refine anyM_take (i := 12) (oi := ⟨some 32, _, _, _, _, _⟩) (v := .tuple #[.slice bb m2 c3, .int .i64 r]) rfl (by kernel_rfl) (by kernel_rfl) (by kernel_rfl) (fun _ _ _ h => h) (.inl ⟨by rfl, fun w2 hw2 => ?_⟩) ?_
    · clear hw2
      go_simp
    simp only [Act.put, List.setIfInBounds_toArray, List.set_cons_succ, List.set_cons_zero]
    refine anyM_take (i := 13) (oi := ⟨some 45, _, _, _, _, _⟩) (v := .slice bb m2 c3) rfl (by kernel_rfl) (by kernel_rfl) (by kernel_rfl) (fun _ _ _ h => h) (.inl ⟨by rfl, fun w2 hw2 => ?_⟩) ?_
    · clear hw2
      go_simp
    simp only [Act.put, List.setIfInBounds_toArray, List.set_cons_succ, List.set_cons_zero]
    refine anyM_take (i := 14) (oi := ⟨some 46, _, _, _, _, _⟩) (v := .int .i64 r) rfl (by kernel_rfl) (by kernel_rfl) (by kernel_rfl) (fun _ _ _ h => h) (.inl ⟨by rfl, fun w2 hw2 => ?_⟩) ?_
    · clear hw2
      go_simp
    simp only [Act.put, List.setIfInBounds_toArray, List.set_cons_succ, List.set_cons_zero]
    refine anyM_take (i := 15) (oi := ⟨some 7, _, _, _, _, _⟩) (v := .slice bb m2 c3) rfl (by kernel_rfl) (by kernel_rfl) (by kernel_rfl) (fun _ _ _ h => h) (.inl ⟨by rfl, fun w2 hw2 => ?_⟩) ?_
    · clear hw2
      go_simp
    simp only [Act.put, List.setIfInBounds_toArray, List.set_cons_succ, List.set_cons_zero]
    refine anyM_take (i := 16) (oi := ⟨some 8, _, _, _, _, _⟩) (v := .int .i64 r) rfl (by kernel_rfl) (by kernel_rfl) (by kernel_rfl) (fun _ _ _ h => h) (.inl ⟨by rfl, fun w2 hw2 => ?_⟩) ?_
    · clear hw2
      go_simp
    simp only [Act.put, List.setIfInBounds_toArray, List.set_cons_succ, List.set_cons_zero]
    refine anyM_done (by kernel_rfl) (fun wc hwc => ?_)
    have bc : Below wb.heap.size wb wc := hwc
    have BC := Lib.hid (BB.out.trans (bc.mono BB.out.size))
    have cv := conv_in _ bb m2 c3 wc (bytesIn_later IB.out bc)
    rw [← HT.out] at cv
    clear hwc bc
    go_wp2_with fail
    all_goals
      go_ret
      exact ⟨rfl, BC.out⟩
  · intro w2 hw2
    have b2 : Below w5.drew.heap.size w5.drew w2 := hw2
    obtain ⟨v6, w6, hcv, o6, b6⟩ := CX.out w2
    obtain ⟨ax, cx, rfl, hcx, hcxm, inx⟩ := o6.bytes'
    refine ⟨.slice ax cm cx, w6, by go_simp, b6, ?_⟩
    have b26 := Lib.hid (b2.trans (b6.mono b2.size))
    have IN6 := Lib.hid inx
    clear hcv o6 b6 b2 hw2 inx
    simp only [Act.put, List.setIfInBounds_toArray, List.set_cons_succ, List.set_cons_zero]
    refine anyM_only (i := 4) (o := ⟨some 37, _, _, _, _, _⟩) (by kernel_rfl) rfl (by rfl) ?_
    intro w7 hw7
    have b7 : Below w6.heap.size w6 w7 := hw7
    obtain ⟨v8, wz, hcv, o8, b8⟩ := CH.out w7
    obtain ⟨ah, ch, rfl, hch, hchm, inh⟩ := o8.bytes'
    refine ⟨.slice ah hm ch, wz, by go_simp, b8, ?_⟩
    have b78 := b7.trans (b8.mono b7.size)
    have INX := Lib.hid (bytesIn_later IN6.out b78)
    have INH := Lib.hid inh
    have b58 := b26.out.trans (b78.mono b26.out.size)
    have BZ := Lib.hid (B5.out.drew.trans (b58.mono B5.out.drew.size))
    clear hcv o8 b8 b78 b58 b7 hw7 b26 IN6 inh
    simp only [Act.put, List.setIfInBounds_toArray, List.set_cons_succ, List.set_cons_zero]
    refine anyM_call (i := 11) (o := ⟨some 44, _, _, _, _, _⟩) 11 #[.agg #[.string K, .string I, .string M], .slice ah hm ch, .int .i64 S, .int .i64 N, .slice ax cm cx] (by kernel_rfl) rfl (by rfl) (fun w2 => by go_simp) (fun wa hwa => ?_)
    have ba : Below wz.heap.size wz wa := hwa
    refine (ST.out wa ah ax ch cx hch hchm (bytesIn_later INH.out ba) (bytesIn_later INX.out ba)).mono ?_
    rintro e wb ⟨bb, m2, c3, gg, rfl, inb, hTT, hbb⟩
    refine ⟨_, rfl, hbb, ?_⟩
    have IB := Lib.hid inb
    have bza := BZ.out.trans (ba.mono BZ.out.size)
    have BB := Lib.hid (bza.trans (hbb.mono bza.size))
    have HT := Lib.hid hTT
    clear inb hbb ba hwa bza INH INX BZ ST hTT
    simp only [Act.put, List.setIfInBounds_toArray, List.set_cons_succ, List.set_cons_zero]
    refine anyM_take (i := 12) (oi := ⟨some 32, _, _, _, _, _⟩) (v := .tuple #[.slice bb m2 c3, .int .i64 r]) rfl (by kernel_rfl) (by kernel_rfl) (by kernel_rfl) (fun _ _ _ h => h) (.inl ⟨by rfl, fun w2 hw2 => ?_⟩) ?_
    · clear hw2
      go_simp
    simp only [Act.put, List.setIfInBounds_toArray, List.set_cons_succ, List.set_cons_zero]
    refine anyM_take (i := 13) (oi := ⟨some 45, _, _, _, _, _⟩) (v := .slice bb m2 c3) rfl (by kernel_rfl) (by kernel_rfl) (by kernel_rfl) (fun _ _ _ h => h) (.inl ⟨by rfl, fun w2 hw2 => ?_⟩) ?_
    · clear hw2
      go_simp
    simp only [Act.put, List.setIfInBounds_toArray, List.set_cons_succ, List.set_cons_zero]
    refine anyM_take (i := 14) (oi := ⟨some 46, _, _, _, _, _⟩) (v := .int .i64 r) rfl (by kernel_rfl) (by kernel_rfl) (by kernel_rfl) (fun _ _ _ h => h) (.inl ⟨by rfl, fun w2 hw2 => ?_⟩) ?_
    · clear hw2
      go_simp
    simp only [Act.put, List.setIfInBounds_toArray, List.set_cons_succ, List.set_cons_zero]
    refine anyM_take (i := 15) (oi := ⟨some 7, _, _, _, _, _⟩) (v := .slice bb m2 c3) rfl (by kernel_rfl) (by kernel_rfl) (by kernel_rfl) (fun _ _ _ h => h) (.inl ⟨by rfl, fun w2 hw2 => ?_⟩) ?_
    · clear hw2
      go_simp
    simp only [Act.put, List.setIfInBounds_toArray, List.set_cons_succ, List.set_cons_zero]
    refine anyM_take (i := 16) (oi := ⟨some 8, _, _, _, _, _⟩) (v := .int .i64 r) rfl (by kernel_rfl) (by kernel_rfl) (by kernel_rfl) (fun _ _ _ h => h) (.inl ⟨by rfl, fun w2 hw2 => ?_⟩) ?_
    · clear hw2
      go_simp
    simp only [Act.put, List.setIfInBounds_toArray, List.set_cons_succ, List.set_cons_zero]
    refine anyM_done (by kernel_rfl) (fun wc hwc => ?_)
    have bc : Below wb.heap.size wb wc := hwc
    have BC := Lib.hid (BB.out.trans (bc.mono BB.out.size))
    have cv := conv_in _ bb m2 c3 wc (bytesIn_later IB.out bc)
    rw [← HT.out] at cv
    clear hwc bc
    go_wp2_with fail
    all_goals
      go_ret
      exact ⟨rfl, BC.out⟩
set_option maxRecDepth 100000 in
theorem walk {H : Type} {enc : TypeId × Value → H} (w : World) (base : Nat) (v0 : Value) (d0 : DataW H) (p0 : List MemPlace)
    (k0 : Value.okWide Tryd.prog w .any base 25 v0)
    (h0 : DataW.Trod enc Tryd.prog w 0 (fun _ => true) true 25 v0 d0 p0) (tab : TabK w) :
    Calls Tryd.prog 3 #[v0] w fun e w' => e = .returned (.bool true) ∧ Below w.heap.size w w' := by
  obtain ⟨K, I, M, Hd, S, N, C, E, F, rfl, hS0, hS1⟩ := open_pack k0 h0
  exact law_any K I M Hd C S N E F hS0 hS1 w tab
set_option maxRecDepth 100000 in
theorem lifted (os : Os) (started : os.Started) (H : Type) (enc : TypeId × Value → H) :
    ReturnsInHanded {} Tryd.checked os 3 .any (fun w args => (Rows.guardSealsSpec.pre enc Tryd.prog Tryd.f3 [] false w args ∧ laidMetH Tryd.prog laids w) ∧ sizedMet enc Tryd.prog Tryd.f3 (OpenSpec.ofChange Rows.guardSealsSpec) false w args)
      (Rows.guardSealsSpec.post enc Tryd.prog Tryd.f3 false true false false) := by
  refine returnsInHanded_of_change_and (C := Tryd.checked) (X := fun w _ => laidMetH Tryd.prog laids w) (fun _ _ _ hh h => h.of_heap hh) own started (by kernel_rfl) Tryd.func3
    (ChangeSpec.witness_shaped (enc := enc) (C := Tryd.checked) (os := os) (X := fun w _ => laidMetH Tryd.prog laids w) false (World.doorLaid Tryd.prog 14 os) #[.agg #[.string ⟨#[]⟩, .string ⟨#[]⟩, .string ⟨#[]⟩, .string ⟨#[]⟩, .int .i64 0, .int .i64 0, .string ⟨#[]⟩, .int .i64 0, .bool false]] 8 rfl (World.shaped_of_RefB (by kernel_rfl) (by kernel_rfl)) (by kernel_rfl) (by kernel_rfl) (by kernel_rfl) (door_met os _)) ?_
  intro W base args ds gs before hval0 hW _ _ hL _
  have hval : ∀ (j : Nat) t v, Tryd.f3.params[j]? = some t → args[j]? = some v → Value.okWide Tryd.prog W .any base t v := hval0
  have hW' := hW
  obtain ⟨p, q, hA0, hV, rfl, hfz, hnd⟩ := hW
  have hA : DataW.TrodAll enc Tryd.prog W 0 (fun _ => true) true Tryd.f3.params.toList args.toList ds p := hA0
  rw [Tryd.params3] at hA hval
  obtain ⟨v0, vs0, d0, ds0, p0, q0, hargs, rfl, rfl, h0, r0⟩ := trodAll_cons hA
  obtain ⟨rfl, rfl, rfl⟩ := trodAll_nil r0
  obtain rfl : args = #[v0] := by cases args; simp_all
  obtain ⟨rfl, rfl⟩ := trodVars_none hV
  have k0 := h0
  have lt0 : ∀ x ∈ p0, x.block < W.heap.size := by obtain ⟨m, hm⟩ := k0; exact DataW.trod_lt m _ _ _ hm
  clear hA0 hval0
  refine (walk W base v0 d0 p0 (hval 0 25 v0 rfl rfl) k0 (tabK_of_laid hL)).mono fun e W' ⟨he, bel⟩ => ?_
  subst he
  exact ⟨_, rfl, _, _, _, [], _, [], hW', trodAll_mk1 (shut_bool Tryd.underlying4 _), (trodAll_cons_mk (Below.trod laidOut (by kernel_rfl) (of_decide_eq_true (by kernel_rfl)) k0 bel lt0) trodAll_mk0), rfl, bel.frame _, fun h => by cases h⟩
theorem over : Rows.GuardSealsSaid :=
  OpenClaim.holds_of_wide 3 Tryd.f3 rfl rfl rfl rfl rfl rfl rfl ⟨rfl, rfl, rfl, rfl, rfl⟩ rfl rfl rfl rfl rfl (by kernel_rfl) Tryd.func3 (by kernel_rfl)
    (of_decide_eq_true (by kernel_rfl)) (by unfold Func.isWrapper; first | (rw [if_pos (by decide +kernel)]; kernel_rfl) | (rw [if_neg (by decide +kernel)]; exact ⟨rfl, rfl⟩))
    (fun os started H enc _ => lifted os started H enc)
theorem proved : Rows.GuardSealsCardSaid :=
  Claim7.holds_tied_plain_at .later [] [.data] true (true, "05149650663bb601fe4f72ae54034949c2a6c1852fc749e9b877e7204368164d") false
    over (fun _ h => by cases h) (by kernel_rfl) (fun _ h => by cases h) guardSeals_row_tie rfl ⟨rfl, rfl⟩ (by kernel_rfl) rfl
    (fun f fn hf hfn => by
      obtain rfl : f = 3 := Option.some.inj ((show Tryd.prog.funcNamed "rhyne/rhynelaw10.GuardSeals" = some 3 by kernel_rfl).symm.trans hf) |>.symm
      obtain rfl : fn = Tryd.f3 := (Option.some.inj (Tryd.func3.symm.trans hfn)).symm
      exact ⟨by kernel_rfl, fun j t ht => by
        rw [Tryd.params3] at ht
        have hm : t ∈ [25] := by simpa using Array.mem_of_getElem? ht
        have hall : ([25].all fun u => !Tryd.prog.wantsStandIn u) = true := by kernel_rfl
        exact (show Tryd.prog.wantsStandIn t = false by simpa using List.all_eq_true.1 hall t hm)⟩)
    (by kernel_rfl)
end Go.Proofs.YtekgclpmbidphaaDoor.guardSeals
