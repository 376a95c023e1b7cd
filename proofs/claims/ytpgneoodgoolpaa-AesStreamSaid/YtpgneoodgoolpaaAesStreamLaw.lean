/-
  AesStream holds: the code's stream is the document's, for all keys, counters, places and bytes; below place 0 the error is told. No conditions.
-/
import Derived.Test.YtpgneoodgoolpaaRows
import Derived.Test.YtpgneoodgoolpaaAesMath
import Derived.Test.YtpgneoodgoolpaaFlow
import Derived.Test.YtpgneoodgoolpaaCallRegion
import Derived.Test.YtpgneoodgoolpaaStr
import Derived.Test.YtpgneoodgoolpaaRefF
import Derived.WalkKit
import Derived.ProofKit
import Derived.OpenShut
import Derived.ShutString
import Derived.ChangeOld
import Derived.Below
import Derived.Deep.DeepCutAuto
import Derived.Deep.Upon
import Derived.Deep.AppendSrc
namespace Go.Proofs.Ytpgneoodgoolpaa.aesStream
open Go Go.ChangeShapes Go.WideShapes Go.ChangeAt Go.RowKit Go.BigFrame
set_option linter.unusedVariables false
theorem own : ownKnob Try.prog.godebug = none := by kernel_rfl
theorem laidOut : laidOutB Try.prog = true := by kernel_rfl
theorem run_upto (w : World) (a : Option Addr) (k m c : Nat) (hk : k ≤ m) (hm : m ≤ c) : (Instr.sliceAt 27 (.slice a m c) none (some (.int .i64 (k : Int))) none).run Try.prog w = .ok (.slice a k c) w := by
  have hkc : k ≤ c := Nat.le_trans hk hm
  have hu : Try.prog.underlying 27 = some (.slice (Try.prog.elem 27)) := by kernel_rfl
  rw [run_sliceAt_slice (t := 27) (h := hu), run_slice_any (t := 27) (ht := hu)]
  have h0 : (0 : Int) ≤ (k : Int) := by omega
  have h1 : (k : Int) ≤ (c : Int) := by omega
  simp [Instr.sliceBounds, go_sem, h0, h1]
theorem conv_in (f : Nat → BitVec 8) (a : Option Addr) (m c : Nat) (w : World) (h : m = 0 ∨ ∃ bb bo, a = some ⟨bb, bo, none⟩ ∧ ∀ i, i < m → w.cell? ⟨bb, bo + i, none⟩ = some (.int .u8 (n8 (f i)))) :
    (convert 27 9 (.slice a m c)).run Try.prog w = .ok (.string (strOf f m)) w := by
  rcases h with rfl | ⟨b, o, rfl, hc⟩
  · have h1 : Try.prog.underlying 27 = some (.slice 5) := by kernel_rfl
    have h2 : Try.prog.underlying 9 = some .string := by kernel_rfl
    have h3 : Try.prog.underlying 5 = some (.int .u8) := by kernel_rfl
    cases a with
    | none =>
      simp [convert, run_underlying h1, run_underlying h2, run_underlying h3, Sem.run_bind]
      rfl
    | some x =>
      have h := run_convert_bytes_back (P := Try.prog) w 27 9 5 x c [] (by kernel_rfl) (by kernel_rfl) (by kernel_rfl) (fun j hj => by simp at hj)
      exact h
  · exact conv_str f b o m c w hc
set_option maxHeartbeats 8000000 in
set_option maxRecDepth 100000 in
theorem stream_any (key ctr f : Nat → BitVec 8) (at_ : Int) (a : Option Addr) (len cap : Nat) (w : World) (hat0 : -9223372036854775808 ≤ at_) (hat1 : at_ ≤ 9223372036854775807)
    (hb : BytesIn w a len f) (hlc : len ≤ cap) (hcm : cap ≤ maxLen) :
    Calls Try.prog 4 #[.agg (flowCells key ctr at_ (.slice a len cap))] w fun e w' => e = .returned (.bool true) ∧ Below w.heap.size w w' := by
  have HB := Lib.hid hb
  have hcm' : cap ≤ 9223372036854775807 := by unfold maxLen at hcm; omega
  clear hb hcm
  go_enter Try.func4, Try.ntmps4
  go_upto_region 1 with (fail)
  have row : (w.alloc (.cells (flowCells key ctr at_ (.slice a len cap)) 36)).heap[w.heap.size]? = some (.cells (flowCells key ctr at_ (.slice a len cap)) 36 (0, 0)) := heap_alloc_last _ _
  have bel : Below w.heap.size w (w.alloc (.cells (flowCells key ctr at_ (.slice a len cap)) 36)) := (Below.refl _ _).alloc (Nat.le_refl _) _
  generalize hW : w.alloc _ = wa at *
  clear hW
  have c33 : wa.cell? ⟨w.heap.size, 33, none⟩ = some (.slice a len cap) := by rw [cell_of_row _ _ _ _ _ _ row]; exact flow_sl _ _ _ _
  have RowC := Lib.hid row
  have BelC := Lib.hid bel
  clear row bel
  go_cut [3] (fun v3 wx => ∃ m : Nat, v3 = .slice a m cap ∧ m ≤ 200 ∧ m ≤ len ∧ wx = wa)
  case first =>
    by_cases hl : len ≤ 200
    · have hl5 : ¬ (200 : Int) < (len : Int) := by omega
      have hl6 : (len : Int) ≤ 200 := by omega
      have su := fun w' => run_upto w' a len len cap (Nat.le_refl _) hlc
      go_wp2_with fail
      go_meet
      exact ⟨len, rfl, hl, Nat.le_refl _, rfl⟩
    · have hl5 : (200 : Int) < (len : Int) := by omega
      have hl6 : ¬ (len : Int) ≤ 200 := by omega
      have su : ∀ w', (Instr.sliceAt 27 (.slice a len cap) none (some (.int .i64 200)) none).run Try.prog w' = .ok (.slice a 200 cap) w' := fun w' => run_upto w' a 200 len cap (by omega) hlc
      go_wp2_with fail
      go_meet
      exact ⟨200, rfl, by omega, by omega, rfl⟩
  case rest =>
    obtain ⟨m, rfl, hm2, hml, rfl⟩ := hcut
    have HX := Lib.hid (show m = 0 ∨ ∃ bb bo, a = some ⟨bb, bo, none⟩ ∧ bb < w.heap.size ∧ ∀ i, i < m → w.cell? ⟨bb, bo + i, none⟩ = some (.int .u8 (n8 (f i))) from by
      rcases HB.out.2 with h | ⟨b, o, e, hl, hc⟩
      · exact .inl (by omega)
      · exact .inr ⟨b, o, e, hl, fun i hi => hc i (by omega)⟩)
    clear c33 HB
    go_wp2_with fail
    refine (new_ok key w.heap.size 0 16 wc (fun i hi => by rw [cell_of_row _ _ _ _ _ _ RowC.out, Nat.zero_add]; exact flow_key _ _ _ _ i hi) (lt_of_heap RowC.out)).mono ?_
    rintro e w1 ⟨rfl, q, hk1⟩
    have hci := hk1.cipher
    have hb1 : Below wc.heap.size wc w1 := hk1.below
    have HB1 := Lib.hid hb1
    clear hk1 hb1
    go_wp2_with fail
    refine (turns_any _).mono ?_
    rintro e w2 ⟨rfl, hb2⟩
    have hc2 := hci.later hb2
    have hb2' := HB1.out.trans (hb2.mono HB1.out.size)
    have HB2 := Lib.hid hb2'
    clear hci hb2 hb2' HB1
    have c32 : w2.cell? ⟨w.heap.size, 32, none⟩ = some (.int .i64 at_) := by
      rw [HB2.out.cell (p := ⟨w.heap.size, 32, none⟩) (lt_of_heap RowC.out), cell_of_row _ _ _ _ _ _ RowC.out]; exact flow_at _ _ _ _
    have RowX := fun (w' : World) (h : Below wc.heap.size wc w') => (h.block _ (lt_of_heap RowC.out)).trans RowC.out
    have ctrX := Lib.hid (fun (w' : World) (h : Below wc.heap.size wc w') (i : Nat) (hi : i < 16) => (show w'.cell? ⟨w.heap.size, 16 + i, none⟩ = some (.int .u8 (n8 (ctr i))) by rw [cell_of_row _ _ _ _ _ _ (RowX w' h)]; exact flow_ctr _ _ _ _ i hi))
    have keyX := Lib.hid (fun (w' : World) (h : Below wc.heap.size wc w') (i : Nat) (hi : i < 16) => (show w'.cell? ⟨w.heap.size, 0 + i, none⟩ = some (.int .u8 (n8 (key i))) by rw [cell_of_row _ _ _ _ _ _ (RowX w' h), Nat.zero_add]; exact flow_key _ _ _ _ i hi))
    have bX := Lib.hid (fun (w' : World) (h : Below wc.heap.size wc w') => (show m = 0 ∨ ∃ bb bo, a = some ⟨bb, bo, none⟩ ∧ bb < w'.heap.size ∧ ∀ i, i < m → w'.cell? ⟨bb, bo + i, none⟩ = some (.int .u8 (n8 (f i))) from by
      rcases HX.out with h0 | ⟨b, o, e, hl, hc⟩
      · exact .inl h0
      · exact .inr ⟨b, o, e, Nat.lt_of_lt_of_le hl (Nat.le_trans BelC.out.size h.size), fun i hi => by rw [(BelC.out.trans (h.mono BelC.out.size)).cell (p := ⟨b, o + i, none⟩) hl]; exact hc i hi⟩))
    clear RowX
    by_cases hneg : at_ < 0
    · go_wp2_with fail
      go_region_held3 (fun w' => w'.cell? ⟨w.heap.size, 32, none⟩ = some (.int .i64 at_)) (first | assumption | go_keep)
        (first | (go_at_call 16; refine (stream_neg (sched key) wc.heap.size _ 16 at_ a m cap _ (hc2.later (Below.refl _ _).drew) hneg).mono ?_; rintro e w' ⟨rfl, rfl⟩) | fail)
      go_wp2_with fail
      go_ret
      exact ⟨rfl, BelC.out.trans ((HB2.out.drew).mono BelC.out.size)⟩
    · obtain ⟨A, rfl⟩ : ∃ A : Nat, at_ = (A : Int) := ⟨at_.toNat, by omega⟩
      obtain ⟨ap, hap, eap⟩ : ∃ ap : Nat, ap < 1099511627776 ∧ (A : Int) % 1099511627776 = (ap : Int) := ⟨A % 1099511627776, by omega, by omega⟩
      have eap2 : (A : Int).tmod 1099511627776 = (ap : Int) := by rw [Int.tmod_eq_emod_of_nonneg (by omega)]; exact eap
      go_wp2_with fail
      clear eap eap2
      refine (stream_ok (sched key) ctr f wc.heap.size w.heap.size 16 16 ap a m cap w2 hc2 (ctrX.out w2 HB2.out) (Nat.lt_of_lt_of_le (lt_of_heap RowC.out) HB2.out.size) (by omega) (by omega) (bX.out w2 HB2.out)).mono ?_
      rintro e w3 ⟨r1, rfl, hb3, hr1, row1⟩
      have HB3 := Lib.hid (HB2.out.trans (hb3.mono HB2.out.size))
      have Row1 := Lib.hid row1
      clear hb3 row1 hc2 hr1 c32
      go_wp2_with fail
      have HS : ∀ w', Below w3.heap.size w3 w' → ((Sem.run Try.prog (convert 27 9 (.slice (some ⟨r1, 0, none⟩) m m)) w') = .ok (.string (strOf (fun i => f i ^^^ strm (sched key) (W4.of ctr) (ap + i)) m)) w') ∧
          ((Sem.run Try.prog (convert 27 9 (.slice (some ⟨w.heap.size, 0, none⟩) 16 16)) w') = .ok (.string (strOf key 16)) w') ∧
          ((Sem.run Try.prog (convert 27 9 (.slice (some ⟨w.heap.size, 16, none⟩) 16 16)) w') = .ok (.string (strOf ctr 16)) w') ∧
          ((Sem.run Try.prog (convert 27 9 (.slice a m cap)) w') = .ok (.string (strOf f m)) w') := fun w' hb => by
        have hbc := HB3.out.trans (hb.mono HB3.out.size)
        refine ⟨conv_str _ r1 0 m m w' (fun i hi => ?_), conv_str key w.heap.size 0 16 16 w' (keyX.out w' hbc), conv_str ctr w.heap.size 16 16 16 w' (ctrX.out w' hbc), conv_in f a m cap w' ?_⟩
        · rw [Nat.zero_add, hb.cell (p := ⟨r1, i, none⟩) (lt_of_heap Row1.out), cell_of_row _ _ _ _ _ _ Row1.out]; exact bytesArr_get _ _ _ hi
        · rcases bX.out w' hbc with h | ⟨b, o, e, _, hc⟩
          · exact .inl h
          · exact .inr ⟨b, o, e, hc⟩
      have KS := Lib.hid HS
      clear HS
      have c0 := KS.out w3.drew (Below.refl _ _).drew
      have hm14 : m ≤ 100000000000000 := by omega
      have hap2 : ap ≤ 4611686018427387904 := by omega
      go_region_held3 (fun w' => ((Sem.run Try.prog (convert 27 9 (.slice (some ⟨r1, 0, none⟩) m m)) w') = .ok (.string (strOf (fun i => f i ^^^ strm (sched key) (W4.of ctr) (ap + i)) m)) w') ∧
          ((Sem.run Try.prog (convert 27 9 (.slice (some ⟨w.heap.size, 0, none⟩) 16 16)) w') = .ok (.string (strOf key 16)) w') ∧
          ((Sem.run Try.prog (convert 27 9 (.slice (some ⟨w.heap.size, 16, none⟩) 16 16)) w') = .ok (.string (strOf ctr 16)) w') ∧
          ((Sem.run Try.prog (convert 27 9 (.slice a m cap)) w') = .ok (.string (strOf f m)) w'))
        (first | exact c0 | exact KS.out _ hr5 | exact KS.out _ hr6)
        (first
          | (go_at_call 14; refine (readyR_any key _).mono ?_; rintro e w5 ⟨p5, rfl, hrow⟩; have hr5 := (Below.refl w3.heap.size w3).drew.trans (hrow.below.mono (Nat.le_refl _)))
          | (go_at_call 17; refine (streamR_any key ctr f m ap _ _ hrow.row hap2 hm14).mono ?_; rintro e w6 ⟨rfl, hb6⟩; have hr6 := hr5.trans (hb6.mono hr5.size))
          | fail)
      go_wp2_with fail
      go_ret
      refine ⟨?_, BelC.out.trans ((HB3.out.trans (hr6.mono HB3.out.size)).mono BelC.out.size)⟩
      simp
theorem walk {H : Type} {enc : TypeId × Value → H} (w : World) (base : Nat) (v0 : Value) (d0 : DataW H) (p0 : List MemPlace)
    (k0 : Value.okWide Try.prog w .any base 36 v0)
    (h0 : DataW.Trod enc Try.prog w 0 (fun _ => true) true 36 v0 d0 p0) :
    Calls Try.prog 4 #[v0] w fun e w' => e = .returned (.bool true) ∧ Below w.heap.size w w' := by
  obtain ⟨key, ctr, at_, a, len, cap, f, rfl, ha0, ha1, hb, hlc, hcm⟩ := open_flow k0 h0
  exact stream_any key ctr f at_ a len cap w ha0 ha1 hb hlc hcm
set_option maxRecDepth 100000 in
theorem lifted (os : Os) (started : os.Started) (H : Type) (enc : TypeId × Value → H) :
    ReturnsInHanded {} Try.checked os 4 .any (Rows.aesStreamSpec.pre6 enc Try.prog Try.f4 Rows.aesStreamRow.domain false) (Rows.aesStreamSpec.post enc Try.prog Try.f4 false true false false) := by
  refine returnsInHanded_of_change (C := Try.checked) own started (by kernel_rfl) Try.func4
    (ChangeSpec.witness6 (enc := enc) (C := Try.checked) false ⟨#[], #[.agg #[.int .u8 0, .int .u8 0, .int .u8 0, .int .u8 0, .int .u8 0, .int .u8 0, .int .u8 0, .int .u8 0, .int .u8 0, .int .u8 0, .int .u8 0, .int .u8 0, .int .u8 0, .int .u8 0, .int .u8 0, .int .u8 0, .int .u8 0, .int .u8 0, .int .u8 0, .int .u8 0, .int .u8 0, .int .u8 0, .int .u8 0, .int .u8 0, .int .u8 0, .int .u8 0, .int .u8 0, .int .u8 0, .int .u8 0, .int .u8 0, .int .u8 0, .int .u8 0, .int .i64 0, .slice none 0 0]], []⟩ 8 (by kernel_rfl) (by kernel_rfl) (by kernel_rfl) (by kernel_rfl)) ?_
  intro W base args ds gs before hval0 hW hcnd _
  have hval : ∀ (j : Nat) t v, Try.f4.params[j]? = some t → args[j]? = some v → Value.okWide Try.prog W .any base t v := hval0
  have hW' := hW
  obtain ⟨p, q, hA0, hV, rfl, hfz, hnd⟩ := hW
  have hA : DataW.TrodAll enc Try.prog W 0 (fun _ => true) true Try.f4.params.toList args.toList ds p := hA0
  rw [Try.params4] at hA hval
  obtain ⟨v0, vs0, d0, ds0, p0, q0, hargs, rfl, rfl, h0, r0⟩ := trodAll_cons hA
  obtain ⟨rfl, rfl, rfl⟩ := trodAll_nil r0
  obtain rfl : args = #[v0] := by cases args; simp_all
  obtain ⟨rfl, rfl⟩ := trodVars_none hV
  have k0 := h0
  have lt0 : ∀ x ∈ p0, x.block < W.heap.size := by obtain ⟨m, hm⟩ := k0; exact DataW.trod_lt m _ _ _ hm
  clear hA0 hval0
  refine (walk W base v0 d0 p0 (hval 0 36 v0 rfl rfl) k0).mono fun e W' ⟨he, bel⟩ => ?_
  subst he
  exact ⟨_, rfl, _, _, _, [], _, [], hW', trodAll_mk1 (shut_bool Try.underlying4 _), (trodAll_cons_mk (Below.trod laidOut (by kernel_rfl) (of_decide_eq_true (by kernel_rfl)) k0 bel lt0) trodAll_mk0), rfl, bel.frame _, fun h => by cases h⟩
theorem over : Rows.aesStreamRow.holds Try.pinned (OpenSpec.ofChange Rows.aesStreamSpec) :=
  OpenClaim.holds_of_wide 4 Try.f4 rfl rfl rfl rfl rfl rfl rfl ⟨rfl, rfl, rfl, rfl, rfl⟩ rfl rfl rfl rfl rfl (by kernel_rfl) Try.func4 (by kernel_rfl)
    (of_decide_eq_true (by kernel_rfl)) (by unfold Func.isWrapper; first | (rw [if_pos (by decide +kernel)]; kernel_rfl) | (rw [if_neg (by decide +kernel)]; exact ⟨rfl, rfl⟩))
    (fun os started H enc _ => lifted os started H enc)
theorem proved : Rows.AesStreamSaid := over
end Go.Proofs.Ytpgneoodgoolpaa.aesStream
