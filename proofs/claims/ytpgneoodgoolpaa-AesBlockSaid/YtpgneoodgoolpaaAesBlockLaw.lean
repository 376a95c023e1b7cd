/-
  AesBlock holds: a block turned by the code is the block that the document's arithmetic makes, for all keys and blocks. No conditions.
-/
import Derived.Test.YtpgneoodgoolpaaRows
import Derived.Test.YtpgneoodgoolpaaAesMath
import Derived.Test.YtpgneoodgoolpaaCallRegion
import Derived.Test.YtpgneoodgoolpaaOpen
import Derived.Test.YtpgneoodgoolpaaStr
import Derived.Test.YtpgneoodgoolpaaRefE
import Derived.WalkKit
import Derived.ProofKit
import Derived.OpenShut
import Derived.ShutString
import Derived.ChangeOld
import Derived.Below
import Derived.Deep.DeepCutAuto
import Derived.Deep.Upon
import Derived.Deep.AppendSrc
namespace Go.Proofs.Ytpgneoodgoolpaa.aesBlock
open Go Go.ChangeShapes Go.WideShapes Go.ChangeAt Go.RowKit Go.BigFrame
set_option linter.unusedVariables false
theorem own : ownKnob Try.prog.godebug = none := by kernel_rfl
theorem laidOut : laidOutB Try.prog = true := by kernel_rfl
theorem open16 {H : Type} {enc : TypeId × Value → H} {w : World} {base : Nat} {v : Value} {d : DataW H} {p : List MemPlace} (hk : Value.okWide Try.prog w .any base 22 v)
    (h : DataW.Trod enc Try.prog w 0 (fun _ => true) true 22 v d p) : ∃ f, v = .agg (b16 f) := by
  obtain ⟨cs, rfl, hs⟩ := okWide_agg (by kernel_rfl) hk
  have hs16 : cs.size = 16 := hs.trans (by kernel_rfl)
  obtain ⟨fuel, hf⟩ := h
  obtain ⟨f, hc⟩ := trod_bytes (t := 22) (e := 5) (n := 16) (by kernel_rfl) (by kernel_rfl) (by kernel_rfl) hf
  refine ⟨f, ?_⟩
  congr 1
  apply Array.ext_getElem?
  intro i
  by_cases hi : i < 16
  · rw [b16_get f i hi, ← hc i hi]
    simp [Value.cells]
  · rw [Array.getElem?_eq_none (by omega), Array.getElem?_eq_none (by simp [b16]; omega)]
set_option maxHeartbeats 4000000 in
set_option maxRecDepth 100000 in
theorem block_any (f0 f1 : Nat → BitVec 8) (w : World) :
    Calls Try.prog 3 #[.agg (b16 f0), .agg (b16 f1)] w fun e w' => e = .returned (.bool true) ∧ Below w.heap.size w w' := by
  go_enter Try.func3, Try.ntmps3
  go_wp2_with fail
  have R1 : ((w.alloc (.cells (b16 f0) 22)).alloc (.cells (b16 f1) 22)).heap[w.heap.size + 1]? = some (.cells (b16 f1) 22 (0, 0)) := heap_alloc2_new _ _ _
  have R0 : ((w.alloc (.cells (b16 f0) 22)).alloc (.cells (b16 f1) 22)).heap[w.heap.size]? = some (.cells (b16 f0) 22 (0, 0)) := heap_alloc2_old _ _ _
  have B0 : Below w.heap.size w ((w.alloc (.cells (b16 f0) 22)).alloc (.cells (b16 f1) 22)) :=
    ((Below.refl _ _).alloc (Nat.le_refl _) _).alloc (by simp) _
  generalize hW : (w.alloc _).alloc _ = wa at *
  clear hW
  have H0 := Lib.hid R0
  have H1 := Lib.hid R1
  have HB := Lib.hid B0
  clear R0 R1 B0
  refine (new_ok f0 w.heap.size 0 16 wa (fun i hi => by rw [cell_of_row _ _ _ _ _ _ H0.out, Nat.zero_add]; exact b16_get f0 i hi) (lt_of_heap H0.out)).mono ?_
  rintro e w1 ⟨rfl, q, hk1⟩
  have hci := hk1.cipher
  have hb1 : Below wa.heap.size wa w1 := hk1.below
  have HB1 := Lib.hid hb1
  clear hk1 hb1
  go_wp2_with fail
  refine (turns_any _).mono ?_
  rintro e w2 ⟨rfl, hb2⟩
  have hc2 := hci.later hb2
  have hb2' := HB1.out.trans (hb2.mono HB1.out.size)
  have HB2 := Lib.hid hb2'
  clear hci hb2 hb2' HB1
  go_wp2_with fail
  refine (block_ok (sched f0) f1 wa.heap.size (w.heap.size + 1) 0 16 w2 hc2 (fun i hi => by rw [HB2.out.cell (p := ⟨_, _, none⟩) (lt_of_heap H1.out), cell_of_row _ _ _ _ _ _ H1.out, Nat.zero_add]; exact b16_get f1 i hi) (Nat.lt_of_lt_of_le (lt_of_heap H1.out) HB2.out.size)).mono ?_
  rintro e w3 ⟨r1, rfl, hf1⟩
  have hb3 := HB2.out.trans (hf1.below.mono HB2.out.size)
  have HB3 := Lib.hid hb3
  generalize hA : (turned sbox (sched f0) (W4.of f1)).byte = g1 at *
  have HA := Lib.hid hA
  have F1 := Lib.hid hf1
  clear hc2 hb3 hf1 hA
  go_wp2_with fail
  have HS : ∀ w', Below w3.heap.size w3 w' → ((Sem.run Try.prog (convert 27 9 (.slice (some ⟨r1, 0, none⟩) 16 16)) w') = .ok (.string (strOf g1 16)) w') ∧
      ((Sem.run Try.prog (convert 27 9 (.slice (some ⟨w.heap.size, 0, none⟩) 16 16)) w') = .ok (.string (strOf f0 16)) w') ∧
      ((Sem.run Try.prog (convert 27 9 (.slice (some ⟨w.heap.size + 1, 0, none⟩) 16 16)) w') = .ok (.string (strOf f1 16)) w') := fun w' hb => by
    refine ⟨conv_str g1 r1 0 16 16 w' (fun i hi => ?_), conv_str f0 w.heap.size 0 16 16 w' (fun i hi => ?_), conv_str f1 (w.heap.size + 1) 0 16 16 w' (fun i hi => ?_)⟩
    · rw [Nat.zero_add, hb.cell (p := ⟨r1, i, none⟩) (lt_of_heap F1.out.row)]; exact F1.out.cell i hi
    · rw [Nat.zero_add, hb.cell (p := ⟨w.heap.size, i, none⟩) (Nat.lt_of_lt_of_le (lt_of_heap H0.out) HB3.out.size), HB3.out.cell (p := ⟨w.heap.size, i, none⟩) (lt_of_heap H0.out), cell_of_row _ _ _ _ _ _ H0.out]; exact b16_get f0 i hi
    · rw [Nat.zero_add, hb.cell (p := ⟨w.heap.size + 1, i, none⟩) (Nat.lt_of_lt_of_le (lt_of_heap H1.out) HB3.out.size), HB3.out.cell (p := ⟨w.heap.size + 1, i, none⟩) (lt_of_heap H1.out), cell_of_row _ _ _ _ _ _ H1.out]; exact b16_get f1 i hi
  have KS := Lib.hid HS
  clear HS
  have c0 := KS.out w3.drew (Below.refl _ _).drew
  have hbB : Hid (Below w3.heap.size w3 w3.drew) := Lib.hid (Below.refl _ _).drew
  go_region_held3 (fun w' => ((Sem.run Try.prog (convert 27 9 (.slice (some ⟨r1, 0, none⟩) 16 16)) w') = .ok (.string (strOf g1 16)) w') ∧
      ((Sem.run Try.prog (convert 27 9 (.slice (some ⟨w.heap.size, 0, none⟩) 16 16)) w') = .ok (.string (strOf f0 16)) w') ∧
      ((Sem.run Try.prog (convert 27 9 (.slice (some ⟨w.heap.size + 1, 0, none⟩) 16 16)) w') = .ok (.string (strOf f1 16)) w'))
    (first | exact c0 | exact KS.out _ hr5 | exact KS.out _ hr6)
    (first
      | (go_at_call 14; refine (readyR_any f0 _).mono ?_; rintro e w5 ⟨p5, rfl, hrow⟩; have hr5 := (Below.refl w3.heap.size w3).drew.trans (hrow.below.mono (Nat.le_refl _)))
      | (go_at_call 15; refine (blockR_any f0 f1 _ _ hrow.row).mono ?_; rintro e w6 ⟨rfl, hb6⟩; have hr6 := hr5.trans (hb6.mono hr5.size))
      | fail)
  go_wp2_with fail
  go_ret
  refine ⟨?_, ((HB.out.trans (HB3.out.mono HB.out.size)).trans (hr6.mono (Below.trans HB.out (HB3.out.mono HB.out.size)).size))⟩
  rw [HA.out]
  simp
theorem walk {H : Type} {enc : TypeId × Value → H} (w : World) (base : Nat) (v0 v1 : Value) (d0 d1 : DataW H) (p0 p1 : List MemPlace)
    (k0 : Value.okWide Try.prog w .any base 22 v0) (k1 : Value.okWide Try.prog w .any base 22 v1)
    (h0 : DataW.Trod enc Try.prog w 0 (fun _ => true) true 22 v0 d0 p0) (h1 : DataW.Trod enc Try.prog w 0 (fun _ => true) true 22 v1 d1 p1) :
    Calls Try.prog 3 #[v0, v1] w fun e w' => e = .returned (.bool true) ∧ Below w.heap.size w w' := by
  obtain ⟨f0, rfl⟩ := open16 k0 h0
  obtain ⟨f1, rfl⟩ := open16 k1 h1
  exact block_any f0 f1 w
set_option maxRecDepth 100000 in
theorem lifted (os : Os) (started : os.Started) (H : Type) (enc : TypeId × Value → H) :
    ReturnsInHanded {} Try.checked os 3 .any (Rows.aesBlockSpec.pre6 enc Try.prog Try.f3 Rows.aesBlockRow.domain false) (Rows.aesBlockSpec.post enc Try.prog Try.f3 false true false false) := by
  refine returnsInHanded_of_change (C := Try.checked) own started (by kernel_rfl) Try.func3
    (ChangeSpec.witness6 (enc := enc) (C := Try.checked) false ⟨#[], #[.agg (Array.replicate 16 (.int .u8 0)), .agg (Array.replicate 16 (.int .u8 0))], []⟩ 8 (by kernel_rfl) (by kernel_rfl) (by kernel_rfl) (by kernel_rfl)) ?_
  intro W base args ds gs before hval0 hW hcnd _
  have hval : ∀ (j : Nat) t v, Try.f3.params[j]? = some t → args[j]? = some v → Value.okWide Try.prog W .any base t v := hval0
  have hW' := hW
  obtain ⟨p, q, hA0, hV, rfl, hfz, hnd⟩ := hW
  have hA : DataW.TrodAll enc Try.prog W 0 (fun _ => true) true Try.f3.params.toList args.toList ds p := hA0
  rw [Try.params3] at hA hval
  obtain ⟨v0, vs0, d0, ds0, p0, q0, hargs, rfl, rfl, h0, r0⟩ := trodAll_cons hA
  obtain ⟨v1, vs1, d1, ds1, p1, q1, rfl, rfl, rfl, h1, r1⟩ := trodAll_cons r0
  obtain ⟨rfl, rfl, rfl⟩ := trodAll_nil r1
  obtain rfl : args = #[v0, v1] := by cases args; simp_all
  obtain ⟨rfl, rfl⟩ := trodVars_none hV
  have k0 := h0
  have lt0 : ∀ x ∈ p0, x.block < W.heap.size := by obtain ⟨m, hm⟩ := k0; exact DataW.trod_lt m _ _ _ hm
  have k1 := h1
  have lt1 : ∀ x ∈ p1, x.block < W.heap.size := by obtain ⟨m, hm⟩ := k1; exact DataW.trod_lt m _ _ _ hm
  clear hA0 hval0
  refine (walk W base v0 v1 d0 d1 p0 p1 (hval 0 22 v0 rfl rfl) (hval 1 22 v1 rfl rfl) k0 k1).mono fun e W' ⟨he, bel⟩ => ?_
  subst he
  exact ⟨_, rfl, _, _, _, [], _, [], hW', trodAll_mk1 (shut_bool Try.underlying4 _), (trodAll_cons_mk (Below.trod laidOut (by kernel_rfl) (of_decide_eq_true (by kernel_rfl)) k0 bel lt0) (trodAll_cons_mk (Below.trod laidOut (by kernel_rfl) (of_decide_eq_true (by kernel_rfl)) k1 bel lt1) trodAll_mk0)), rfl, bel.frame _, fun h => by cases h⟩
theorem over : Rows.aesBlockRow.holds Try.pinned (OpenSpec.ofChange Rows.aesBlockSpec) :=
  OpenClaim.holds_of_wide 3 Try.f3 rfl rfl rfl rfl rfl rfl rfl ⟨rfl, rfl, rfl, rfl, rfl⟩ rfl rfl rfl rfl rfl (by kernel_rfl) Try.func3 (by kernel_rfl)
    (of_decide_eq_true (by kernel_rfl)) (by unfold Func.isWrapper; first | (rw [if_pos (by decide +kernel)]; kernel_rfl) | (rw [if_neg (by decide +kernel)]; exact ⟨rfl, rfl⟩))
    (fun os started H enc _ => lifted os started H enc)
theorem proved : Rows.AesBlockSaid := over
end Go.Proofs.Ytpgneoodgoolpaa.aesBlock
