import Derived.Test.YtlfdkbjnfnnebacRows
import Derived.Test.YtlfdkbjnfnnebacAesJ
import Derived.Test.YtlfdkbjnfnnebacFlow
import Derived.Test.YtlfdkbjnfnnebacCallRegion
import Derived.Test.YtlfdkbjnfnnebacStr
import Derived.WalkKit
import Derived.ProofKit
import Derived.OpenShut
import Derived.ShutString
import Derived.ChangeOld
import Derived.Below
import Derived.Deep.DeepCutAuto
import Derived.Deep.Upon
import Derived.Deep.AppendSrc
namespace Go.Proofs.Ytlfdkbjnfnnebac.aesParts
open Go Go.ChangeShapes Go.WideShapes Go.ChangeAt Go.RowKit Go.BigFrame
set_option linter.unusedVariables false
theorem own : ownKnob Try.prog.godebug = none := by kernel_rfl
theorem laidOut : laidOutB Try.prog = true := by kernel_rfl
theorem own_slice2 {w : World} {B : Nat} {v : Value} {n : Nat} {f : Nat → BitVec 8} (hn : 0 < n) (h : w.ownsRow B 5 1 v n (firsts f n)) :
    ∃ g cap, v = .slice (some ⟨g, 0, none⟩) n cap ∧ n ≤ cap ∧ cap ≤ maxLen ∧ B ≤ g ∧ g < w.heap.size ∧ ∀ i, i < n → w.cell? ⟨g, i, none⟩ = some (.int .u8 (n8 (f i))) := by
  have h2 := h
  rcases h.2 with ⟨_, h0⟩ | ⟨g, cap, cur, rfl, hB, hg, hnc, hcm, _⟩
  · omega
  · obtain ⟨g', cap', e, _, _, hc⟩ := own_slice hn h2
    simp only [Value.slice.injEq, Option.some.injEq, Addr.mk.injEq] at e
    obtain ⟨⟨rfl, _⟩, _, rfl⟩ := e
    exact ⟨g, cap, rfl, hnc, hcm, hB, lt_of_heap hg, fun i hi => by have := hc i hi; rwa [Nat.zero_add] at this⟩
theorem append_none (w : World) (g : Nat) (a : Option Addr) (c : Nat) : (Builtin.append_ #[22, 22] 22 #[.slice (some ⟨g, 0, none⟩) 0 0, .slice a 0 c]).run Try.prog w = .ok (.slice (some ⟨g, 0, none⟩) 0 0) w := by
  have hu : Try.prog.underlying 22 = some (.slice 5) := by kernel_rfl
  obtain ⟨i, hi⟩ : ∃ i, Try.prog.info? 5 = some i := by
    have h := info_u8
    cases hq : Try.prog.info? 5 with
    | none => simp [hq] at h
    | some i => exact ⟨i, rfl⟩
  refine run_append_nothing (P := Try.prog) w 22 22 22 5 i hu hi _ 0 0 (Nat.le_refl _) _ ?_
  cases a with
  | none => exact Src.ofNil w hu c
  | some x => exact Src.ofSlice w hu x 0 c [] (by simp) (fun j u h => by simp at h) (fun u h => by cases h)
theorem src_cells {wa : World} {b off len : Nat} {f : Nat → BitVec 8} (hb : b < wa.heap.size) (h : ∀ i, i < len → wa.cell? ⟨b, off + i, none⟩ = some (.int .u8 (n8 (f i)))) (o : Obj) (n : Nat) (hn : n ≤ len) :
    ∀ (j : Nat) (u : Value), (firsts f n)[j]? = some u → (wa.alloc o).cell? ((⟨b, off, none⟩ : Addr).add j) = some u := by
  intro j u hj
  have hj' : j < n := by have := (List.getElem?_eq_some_iff.1 hj).1; rwa [firsts_len] at this
  have hu : u = .int .u8 (n8 (f j)) := by simpa [firsts, hj'] using hj.symm
  rw [hu, show ((⟨b, off, none⟩ : Addr).add j) = ⟨b, off + j, none⟩ from by unfold Addr.add; split <;> simp_all]
  rw [Below.cell (Below.refl wa.heap.size wa |>.alloc (Nat.le_refl _) o) (p := ⟨b, off + j, none⟩) hb]
  exact h j (by omega)
theorem src_one (f : Nat → BitVec 8) (n : Nat) : ∀ u ∈ firsts f n, u.oneCell' = true := by
  intro u hu
  obtain ⟨j, _, rfl⟩ := List.mem_map.1 hu
  rfl
theorem quiet_of_run {P : Program} {x : Sem Value} {v : Value} {w : World} (h : x.run P w = .ok v w) : (x >>= fun v => pure (Next.value v)).run P w = .ok (.value v) w := by
  rw [Sem.run_bind, h]; rfl
theorem run_field1 (w : World) (b : Nat) : (Instr.fieldAt 35 (.pointer (some ⟨b, 0, none⟩)) 1).run Try.prog w = .ok (.pointer (some ⟨b, 16, none⟩)) w := by
  first
  | (with_unfolding_all rfl)
  | simp [go_sem, Try.underlying35]
theorem run_arr16 (w : World) (b o : Nat) : (Instr.sliceAt 33 (.pointer (some ⟨b, o, none⟩)) none none none).run Try.prog w = .ok (.slice (some ⟨b, o, none⟩) 16 16) w := by
  first
  | (with_unfolding_all rfl)
  | simp [go_sem]
theorem run_upto (w : World) (a : Option Addr) (k m c : Nat) (hk : k ≤ m) (hm : m ≤ c) : (Instr.sliceAt 22 (.slice a m c) none (some (.int .i64 (k : Int))) none).run Try.prog w = .ok (.slice a k c) w := by
  have hkc : k ≤ c := Nat.le_trans hk hm
  have hu : Try.prog.underlying 22 = some (.slice (Try.prog.elem 22)) := by kernel_rfl
  rw [run_sliceAt_slice (t := 22) (h := hu), run_slice_any (t := 22) (ht := hu)]
  have h0 : (0 : Int) ≤ (k : Int) := by omega
  have h1 : (k : Int) ≤ (c : Int) := by omega
  simp [Instr.sliceBounds, go_sem, h0, h1]
theorem run_from (a : Option Addr) (k m c : Nat) (hk : k ≤ m) : ∃ a', (∀ w : World, (Instr.sliceAt 22 (.slice a m c) (some (.int .i64 (k : Int))) none none).run Try.prog w = .ok (.slice a' (m - k) (c - k)) w) ∧ (c ≠ k → a' = a.map (·.add k)) := by
  refine ⟨if c = k then a else a.map (·.add k), fun w => ?_, fun h => by rw [if_neg h]⟩
  have hu : Try.prog.underlying 22 = some (.slice (Try.prog.elem 22)) := by kernel_rfl
  rw [run_sliceAt_slice (t := 22) (h := hu), run_slice_any (t := 22) (ht := hu)]
  have h0 : (0 : Int) ≤ (k : Int) := by omega
  have h1 : (k : Int) ≤ (m : Int) := by omega
  simp [Instr.sliceBounds, go_sem, h0, h1]
theorem run_add (w : World) (a b : Nat) (h : a + b < 9223372036854775808) : (do eqGuard .add 3 (.tmp 87) (.tmp 88) (.int .i64 (a : Int)) (.int .i64 (b : Int)); (binOp .add 3 (.int .i64 (a : Int)) (.int .i64 (b : Int)) >>= fun v => pure (Next.value v)) : Sem Next).run Try.prog w = .ok (.value (.int .i64 ((a + b : Nat) : Int))) w := by
  have e : IntKind.i64.wrap ((a : Int) + (b : Int)) = ((a + b : Nat) : Int) := by
    rw [IntKind.wrap_i64]
    omega
  simp [go_sem, e]
theorem strL_append (f g s : Nat → BitVec 8) (k m : Nat) (hk : k ≤ m) (h1 : ∀ i, i < k → f i = s i) (h2 : ∀ i, i < m - k → g i = s (k + i)) : strL f k ++ strL g (m - k) = strL s m := by
  apply List.ext_getElem?
  intro i
  by_cases hi : i < k
  · rw [List.getElem?_append_left (by rw [strL_length]; exact hi)]
    simp [strL, hi, show i < m by omega, h1 i hi]
  · rw [List.getElem?_append_right (by rw [strL_length]; omega), strL_length]
    by_cases him : i < m
    · simp [strL, show i - k < m - k by omega, him, h2 (i - k) (by omega), show k + (i - k) = i by omega]
    · rw [List.getElem?_eq_none (by rw [strL_length]; omega), List.getElem?_eq_none (by rw [strL_length]; omega)]
theorem strOf_append (f g s : Nat → BitVec 8) (k m : Nat) (hk : k ≤ m) (h1 : ∀ i, i < k → f i = s i) (h2 : ∀ i, i < m - k → g i = s (k + i)) : strOf f k ++ strOf g (m - k) = strOf s m := by
  apply ByteArray.ext
  rw [ByteArray.data_append]
  apply Array.ext'
  rw [Array.toList_append]
  exact strL_append f g s k m hk h1 h2
theorem le_mod (x : Int) (n : Nat) (hn : n < 9223372036854775806 := by omega) : ∃ k : Nat, k < n + 1 ∧ wrap64 ((IntKind.u64.wrap x).tmod ((n : Int) + 1)) = (k : Int) := by
  have e : IntKind.u64.wrap x = x % 18446744073709551616 := by simp [IntKind.wrap_u64]
  have h0 : 0 ≤ IntKind.u64.wrap x := by rw [e]; omega
  rw [Int.tmod_eq_emod_of_nonneg h0]
  have h1 : 0 ≤ IntKind.u64.wrap x % ((n : Int) + 1) := Int.emod_nonneg _ (by omega)
  have h2 : IntKind.u64.wrap x % ((n : Int) + 1) < (n : Int) + 1 := Int.emod_lt_of_pos _ (by omega)
  obtain ⟨k, hk⟩ := Int.eq_ofNat_of_zero_le h1
  refine ⟨k, by omega, ?_⟩
  rw [hk]
  unfold wrap64
  omega
set_option maxHeartbeats 8000000 in
set_option maxRecDepth 100000 in
theorem parts_any (key ctr f : Nat → BitVec 8) (at_ cut_ : Int) (a : Option Addr) (len cap : Nat) (w : World) (hat0 : -9223372036854775808 ≤ at_) (hat1 : at_ ≤ 9223372036854775807) (hc0 : -9223372036854775808 ≤ cut_) (hc1 : cut_ ≤ 9223372036854775807)
    (hb : BytesIn w a len f) (hlc : len ≤ cap) (hcm : cap ≤ maxLen) :
    Calls Try.prog 5 #[.agg (flowCells key ctr at_ (.slice a len cap)), .int .i64 cut_] w fun e w' => e = .returned (.bool true) ∧ Below w.heap.size w w' := by
  obtain ⟨i0, hi, hz, hs, hby⟩ : ∃ i0, Try.prog.info? 5 = some i0 ∧ i0.zero = some (.int .u8 0) ∧ i0.size = 1 ∧ i0.bytes = 1 := by
    have h := info_u8
    cases hq : Try.prog.info? 5 with
    | none => simp [hq] at h
    | some i => exact ⟨i, rfl, by simpa [hq] using h⟩
  have Hi := Lib.hid hi
  have Hz := Lib.hid hz
  have Hs := Lib.hid hs
  have Hy := Lib.hid hby
  have HB := Lib.hid hb
  clear hi hz hs hby hb
  have hcm' : cap ≤ 9223372036854775807 := by unfold maxLen at hcm; omega
  clear hcm
  go_enter Try.func5, Try.ntmps5
  go_upto_region 1 with (fail)
  have row : (w.alloc (.cells (flowCells key ctr at_ (.slice a len cap)) 35)).heap[w.heap.size]? = some (.cells (flowCells key ctr at_ (.slice a len cap)) 35 (0, 0)) := heap_alloc_last _ _
  have bel : Below w.heap.size w (w.alloc (.cells (flowCells key ctr at_ (.slice a len cap)) 35)) := (Below.refl _ _).alloc (Nat.le_refl _) _
  generalize hW : w.alloc _ = wa at *
  clear hW
  have c33 : wa.cell? ⟨w.heap.size, 33, none⟩ = some (.slice a len cap) := by rw [cell_of_row _ _ _ _ _ _ row]; exact flow_sl _ _ _ _
  have Row := Lib.hid row
  have Bel := Lib.hid bel
  clear row bel
  go_cut [5] (fun v5 wx => ∃ m g cg, v5 = .slice (some ⟨g, 0, none⟩) m cg ∧ m ≤ 400 ∧ m ≤ cg ∧ cg ≤ maxLen ∧ (∀ i, i < m → wx.cell? ⟨g, i, none⟩ = some (.int .u8 (n8 (f i)))) ∧ wa.heap.size ≤ g ∧ g < wx.heap.size ∧ Below wa.heap.size wa wx)
  case first =>
    have hsz : w.heap.size < wa.heap.size := by have := Row.out; exact lt_of_heap this
    by_cases hl0 : len = 0
    · subst hl0
      have app := append_none
      cases a with
      | none =>
        go_wp2_with fail
        go_meet
        exact ⟨0, wa.heap.size, 0, rfl, by omega, by omega, by decide, fun i hi => by omega, Nat.le_refl _, by simp, (Below.refl _ _).alloc (Nat.le_refl _) _⟩
      | some a0 =>
        go_wp2_with fail
        go_meet
        exact ⟨0, wa.heap.size, 0, rfl, by omega, by omega, by decide, fun i hi => by omega, Nat.le_refl _, by simp, (Below.refl _ _).alloc (Nat.le_refl _) _⟩
    obtain h0 | ⟨b, off, rfl, hbb, hcell0⟩ := HB.out.2
    · omega
    have Hbw := Lib.hid (Nat.lt_of_lt_of_le hbb Bel.out.size)
    have Hcell := Lib.hid (fun (i : Nat) (hi : i < len) => (show wa.cell? ⟨b, off + i, none⟩ = some (.int .u8 (n8 (f i))) by rw [Bel.out.cell (p := ⟨b, off + i, none⟩) hbb]; exact hcell0 i hi))
    clear hcell0 Bel HB Row
    by_cases hl4 : len ≤ 400
    · have hl5 : ¬ (400 : Int) < (len : Int) := by omega
      go_wp2_with (at_builtin; refine wpList_append_where _ rfl (.tmp 18) (.tmp 25) 22 rfl wa.heap.size 5 i0 (.int .u8 0) 1 1 under_bytes Hi.out Hz.out Hs.out Hy.out rfl (by decide) _ 0 [] rfl (World.ownsRow_made wa #[] 0 (Nat.le_refl _) (by decide) rfl) ⟨b, off, none⟩ len cap (firsts f len) rfl (by rw [firsts_len, Nat.mul_one]) (src_cells Hbw.out Hcell.out _ len (by omega)) (src_one f len) ?c3 ?c4 (by simp) ?_)
      case c3 => unfold maxLen; omega
      case c4 => omega
      intro v' w1 hown hgrow _
      try simp only [Nat.zero_add, List.nil_append] at hown
      have hB1 := ((Below.refl wa.heap.size wa).alloc (Nat.le_refl _) (.cells #[] 5)).grown hgrow (by simp) (fun k hk => by simp [Value.ownBlock] at hk; omega)
      obtain ⟨g, cg, rfl, hcg, hcgm, hBg, hlt, hcells⟩ := own_slice2 (by omega) hown
      clear hown hgrow
      go_wp2_with fail
      go_meet
      exact ⟨len, g, cg, rfl, by omega, hcg, hcgm, hcells, hBg, hlt, hB1⟩
    · have hl5 : (400 : Int) < (len : Int) := by omega
      go_wp2_with (at_builtin; refine wpList_append_where _ rfl (.tmp 18) (.tmp 25) 22 rfl wa.heap.size 5 i0 (.int .u8 0) 1 1 under_bytes Hi.out Hz.out Hs.out Hy.out rfl (by decide) _ 0 [] rfl (World.ownsRow_made wa #[] 0 (Nat.le_refl _) (by decide) rfl) ⟨b, off, none⟩ 400 cap (firsts f 400) rfl (by rw [firsts_len, Nat.mul_one]) (src_cells Hbw.out Hcell.out _ 400 (by omega)) (src_one f 400) ?c3 ?c4 (by simp) ?_)
      case c3 => unfold maxLen; omega
      case c4 => omega
      intro v' w1 hown hgrow _
      try simp only [Nat.zero_add, List.nil_append] at hown
      have hB1 := ((Below.refl wa.heap.size wa).alloc (Nat.le_refl _) (.cells #[] 5)).grown hgrow (by simp) (fun k hk => by simp [Value.ownBlock] at hk; omega)
      obtain ⟨g, cg, rfl, hcg, hcgm, hBg, hlt, hcells⟩ := own_slice2 (by omega) hown
      clear hown hgrow
      go_wp2_with fail
      go_meet
      exact ⟨400, g, cg, rfl, by omega, hcg, hcgm, hcells, hBg, hlt, hB1⟩
  case rest =>
    obtain ⟨m, g, cg, rfl, hm4, hmc, hcgm, hcb, hg0, hg1, hbx⟩ := hcut
    have hsz : w.heap.size < wa.heap.size := lt_of_heap Row.out
    have RowC := Lib.hid ((hbx.block _ hsz).trans Row.out)
    have BelC := Lib.hid (Bel.out.trans (hbx.mono (Nat.le_of_lt hsz)))
    have hgw : w.heap.size ≠ g := by omega
    have CB := Lib.hid hcb
    have e1 : (Sem.run Try.prog (convert 22 9 (.slice (some ⟨g, 0, none⟩) m cg)) wc) = .ok (.string (strOf f m)) wc := conv_str f g 0 m cg wc (fun i hi => by rw [Nat.zero_add]; exact hcb i hi)
    clear hcb hg0 hbx c33 Row Bel HB hlc
    have HG1 := Lib.hid hg1
    clear hg1
    go_wp2_with fail
    clear e1
    refine (new_ok key w.heap.size 0 16 wc (fun i hi => by rw [cell_of_row _ _ _ _ _ _ RowC.out, Nat.zero_add]; exact flow_key _ _ _ _ i hi) (lt_of_heap RowC.out)).mono ?_
    rintro e w1 ⟨rfl, q, hk1⟩
    have hci := hk1.cipher
    have hb1 : Below wc.heap.size wc w1 := hk1.below
    have HB1 := Lib.hid hb1
    clear hk1 hb1
    go_wp2_with fail
    refine (turns_any _).mono ?_
    rintro e w2 ⟨rfl, hb2⟩
    have hc2 := hci.later hb2
    have hb2' := HB1.out.trans (hb2.mono HB1.out.size)
    have HB2 := Lib.hid hb2'
    clear hci hb2 hb2' HB1
    have c32 : w2.cell? ⟨w.heap.size, 32, none⟩ = some (.int .i64 at_) := by
      rw [HB2.out.cell (p := ⟨w.heap.size, 32, none⟩) (lt_of_heap RowC.out), cell_of_row _ _ _ _ _ _ RowC.out]; exact flow_at _ _ _ _
    go_wp2_with fail
    obtain ⟨ap, hap, eap⟩ : ∃ ap : Nat, ap < 1000 ∧ wrap64 ((IntKind.u64.wrap at_).tmod 1000) = (ap : Int) := le_mod at_ 999
    obtain ⟨k, hk, ek⟩ : ∃ k : Nat, k < m + 1 ∧ wrap64 ((IntKind.u64.wrap cut_).tmod ((m : Int) + 1)) = (k : Int) := le_mod cut_ m (by omega)
    simp only [eap, ek]
    clear eap ek c32
    have RowX := fun (w' : World) (h : Below wc.heap.size wc w') => (h.block _ (lt_of_heap RowC.out)).trans RowC.out
    have ctrX := Lib.hid (fun (w' : World) (h : Below wc.heap.size wc w') (i : Nat) (hi : i < 16) => (show w'.cell? ⟨w.heap.size, 16 + i, none⟩ = some (.int .u8 (n8 (ctr i))) by rw [cell_of_row _ _ _ _ _ _ (RowX w' h)]; exact flow_ctr _ _ _ _ i hi))
    have bX := Lib.hid (fun (w' : World) (h : Below wc.heap.size wc w') (i : Nat) (hi : i < m) => (show w'.cell? ⟨g, i, none⟩ = some (.int .u8 (n8 (f i))) by rw [h.cell (p := ⟨g, i, none⟩) HG1.out]; exact CB.out i hi))
    clear RowX
    refine (stream_ok (sched key) ctr f wc.heap.size w.heap.size 16 16 ap (some ⟨g, 0, none⟩) m cg w2 hc2 (ctrX.out w2 HB2.out) (Nat.lt_of_lt_of_le (lt_of_heap RowC.out) HB2.out.size) (by omega) (by omega) (.inr ⟨g, 0, rfl, Nat.lt_of_lt_of_le HG1.out HB2.out.size, fun i hi => by rw [Nat.zero_add]; exact bX.out w2 HB2.out i hi⟩)).mono ?_
    rintro e w3 ⟨r1, rfl, hb3, hr1, row1⟩
    generalize hsm : strm (sched key) (W4.of ctr) = sm at row1
    have Hsm := Lib.hid hsm
    have hc3 := hc2.later hb3
    have HB3 := Lib.hid (HB2.out.trans (hb3.mono HB2.out.size))
    have Row1 := Lib.hid row1
    have cells1 := Lib.hid (fun (w' : World) (h : Below w3.heap.size w3 w') (i : Nat) (hi : i < m) => (show w'.cell? ⟨r1, i, none⟩ = some (.int .u8 (n8 (f i ^^^ sm (ap + i)))) by rw [h.cell (p := ⟨r1, i, none⟩) (lt_of_heap Row1.out), cell_of_row _ _ _ _ _ _ Row1.out]; exact bytesArr_get _ _ _ hi))
    clear hc2 hb3 hsm row1 HB2
    go_wp2_with fail
    refine (stream_ok (sched key) ctr (fun i => f i ^^^ sm (ap + i)) wc.heap.size w.heap.size 16 16 ap (some ⟨r1, 0, none⟩) m m w3 hc3 (ctrX.out w3 HB3.out) (Nat.lt_of_lt_of_le (lt_of_heap RowC.out) HB3.out.size) (by omega) (by omega) (.inr ⟨r1, 0, rfl, lt_of_heap Row1.out, fun i hi => by rw [Nat.zero_add]; exact cells1.out w3 (Below.refl _ _) i hi⟩)).mono ?_
    rintro e w4 ⟨r2, rfl, hb4, hr2, row2⟩
    rw [Hsm.out] at row2
    have hc4 := hc3.later hb4
    have HB4 := Lib.hid (HB3.out.trans (hb4.mono HB3.out.size))
    have HB34 := Lib.hid hb4
    have Row2 := Lib.hid row2
    clear hc3 hb4 row2 HB3
    have hk' : k ≤ m := by omega
    have hkI : (k : Int) ≤ (m : Int) := by omega
    have hkc : k ≤ cg := by omega
    go_wp2_with fail
    refine region_call 7 (fun w' => Below w4.heap.size w4 w') mixedOrders (by kernel_rfl) (Below.refl _ _).drew rfl rfl ?_
    simp only [List.take_succ_cons, List.take_zero, List.drop_succ_cons, List.drop_zero]
    repeat (go_big_quiet_step (fail))
    refine wpQuiet_run (.pointer (some ⟨w.heap.size, 16, none⟩)) (by rfl) (fun w' _ => quiet_of_run (run_field1 w' _)) ?_
    refine wpQuiet_run (.slice (some ⟨w.heap.size, 16, none⟩) 16 16) (by rfl) (fun w' _ => quiet_of_run (run_arr16 w' _ _)) ?_
    simp only [Act.put, List.setIfInBounds_toArray, List.set_cons_succ, List.set_cons_zero]
    repeat (go_big_quiet_step (fail))
    refine wpQuiet_run (.slice (some ⟨g, 0, none⟩) k cg) (by rfl) (fun w' _ => quiet_of_run (run_upto w' _ k m cg hk' hmc)) ?_
    simp only [Act.put, List.setIfInBounds_toArray, List.set_cons_succ, List.set_cons_zero]
    refine wpQuiet_nil ?_
    intro w5 hw5 K hK
    have hc5 := hc4.later hw5
    have HB5 := Lib.hid (HB4.out.trans (hw5.mono HB4.out.size))
    have HB35 := Lib.hid (HB34.out.trans (hw5.mono HB34.out.size))
    have Row2' := Lib.hid ((hw5.block _ (lt_of_heap Row2.out)).trans Row2.out)
    clear hc4 HB4 HB34 Row2 hw5
    go_big_op
    refine (stream_ok (sched key) ctr f wc.heap.size w.heap.size 16 16 ap (some ⟨g, 0, none⟩) k cg w5 hc5 (ctrX.out w5 HB5.out) (Nat.lt_of_lt_of_le (lt_of_heap RowC.out) HB5.out.size) (by omega) (by omega) (.inr ⟨g, 0, rfl, Nat.lt_of_lt_of_le HG1.out HB5.out.size, fun i hi => by rw [Nat.zero_add]; exact bX.out w5 HB5.out i (by omega)⟩)).mono ?_
    rintro e w6 ⟨r3, rfl, hb6, hr3, row3⟩
    rw [Hsm.out] at row3
    have hc6 := hc5.later hb6
    have HB6 := Lib.hid (HB5.out.trans (hb6.mono HB5.out.size))
    have HB36 := Lib.hid (HB35.out.trans (hb6.mono HB35.out.size))
    have Row26 := Lib.hid ((hb6.block _ (lt_of_heap Row2'.out)).trans Row2'.out)
    have Row3 := Lib.hid row3
    clear hc5 HB5 HB35 Row2' hb6 row3
    refine hK _ _ ?_
    clear hK
    repeat (go_big_quiet_step (fail))
    refine wpQuiet_nil ?_
    go_wp2_with fail
    obtain ⟨ab, hab, hab'⟩ := run_from (some ⟨g, 0, none⟩) k m cg hk'
    have hab2 : ∀ (i : Nat), k < m → ab = some ⟨g, k, none⟩ := fun i hi => by
      rw [hab' (by omega)]
      show some (Addr.add ⟨g, 0, none⟩ k) = _
      unfold Addr.add
      split <;> simp_all
    refine region_call 9 (fun w' => Below w6.heap.size w6 w') mixedOrders (by kernel_rfl) (Below.refl _ _).drew rfl rfl ?_
    simp only [List.take_succ_cons, List.take_zero, List.drop_succ_cons, List.drop_zero]
    repeat (go_big_quiet_step (fail))
    refine wpQuiet_run (.pointer (some ⟨w.heap.size, 16, none⟩)) (by rfl) (fun w' _ => quiet_of_run (run_field1 w' _)) ?_
    refine wpQuiet_run (.slice (some ⟨w.heap.size, 16, none⟩) 16 16) (by rfl) (fun w' _ => quiet_of_run (run_arr16 w' _ _)) ?_
    simp only [Act.put, List.setIfInBounds_toArray, List.set_cons_succ, List.set_cons_zero]
    repeat (go_big_quiet_step (fail))
    refine wpQuiet_run (.int .i64 ((ap + k : Nat) : Int)) (by rfl) (fun w' _ => run_add w' ap k (by omega)) ?_
    simp only [Act.put, List.setIfInBounds_toArray, List.set_cons_succ, List.set_cons_zero]
    repeat (go_big_quiet_step (fail))
    refine wpQuiet_run (.slice ab (m - k) (cg - k)) (by rfl) (fun w' _ => quiet_of_run (hab w')) ?_
    simp only [Act.put, List.setIfInBounds_toArray, List.set_cons_succ, List.set_cons_zero]
    refine wpQuiet_nil ?_
    intro w7 hw7 K hK
    have hc7 := hc6.later hw7
    have HB7 := Lib.hid (HB6.out.trans (hw7.mono HB6.out.size))
    have HB37 := Lib.hid (HB36.out.trans (hw7.mono HB36.out.size))
    have Row27 := Lib.hid ((hw7.block _ (lt_of_heap Row26.out)).trans Row26.out)
    have Row37 := Lib.hid ((hw7.block _ (lt_of_heap Row3.out)).trans Row3.out)
    clear hc6 HB6 HB36 Row26 Row3 hw7 hab hab'
    go_big_op
    refine (stream_ok (sched key) ctr (fun i => f (k + i)) wc.heap.size w.heap.size 16 16 (ap + k) ab (m - k) (cg - k) w7 hc7 (ctrX.out w7 HB7.out) (Nat.lt_of_lt_of_le (lt_of_heap RowC.out) HB7.out.size) (by omega) (by omega) (by
      by_cases hkm : k < m
      · exact .inr ⟨g, k, hab2 0 hkm, Nat.lt_of_lt_of_le HG1.out HB7.out.size, fun i hi => bX.out w7 HB7.out (k + i) (by omega)⟩
      · exact .inl (by omega))).mono ?_
    rintro e w8 ⟨r4, rfl, hb8, hr4, row4⟩
    rw [Hsm.out] at row4
    have HB8 := Lib.hid (HB7.out.trans (hb8.mono HB7.out.size))
    have HB38 := Lib.hid (HB37.out.trans (hb8.mono HB37.out.size))
    have Row28 := Lib.hid ((hb8.block _ (lt_of_heap Row27.out)).trans Row27.out)
    have Row38 := Lib.hid ((hb8.block _ (lt_of_heap Row37.out)).trans Row37.out)
    have Row4 := Lib.hid row4
    clear hc7 HB7 HB37 Row27 Row37 hb8 row4
    refine hK _ _ ?_
    clear hK
    repeat (go_big_quiet_step (fail))
    refine wpQuiet_nil ?_
    have eb : (Sem.run Try.prog (convert 22 9 (.slice (some ⟨g, 0, none⟩) m cg)) w8) = .ok (.string (strOf f m)) w8 := conv_str f g 0 m cg w8 (fun i hi => by rw [Nat.zero_add]; exact bX.out w8 HB8.out i hi)
    have es : (Sem.run Try.prog (convert 22 9 (.slice (some ⟨r1, 0, none⟩) m m)) w8) = .ok (.string (strOf (fun i => f i ^^^ sm (ap + i)) m)) w8 := conv_str _ r1 0 m m w8 (fun i hi => by rw [Nat.zero_add]; exact cells1.out w8 HB38.out i hi)
    have et : (Sem.run Try.prog (convert 22 9 (.slice (some ⟨r2, 0, none⟩) m m)) w8) = .ok (.string (strOf f m)) w8 := conv_str f r2 0 m m w8 (fun i hi => by
      rw [Nat.zero_add, cell_of_row _ _ _ _ _ _ Row28.out, bytesArr_get _ _ _ hi, BitVec.xor_assoc, BitVec.xor_self, BitVec.xor_zero])
    have eu : (Sem.run Try.prog (convert 22 9 (.slice (some ⟨r3, 0, none⟩) k k)) w8) = .ok (.string (strOf (fun i => f i ^^^ sm (ap + i)) k)) w8 := conv_str _ r3 0 k k w8 (fun i hi => by
      rw [Nat.zero_add, cell_of_row _ _ _ _ _ _ Row38.out, bytesArr_get _ _ _ hi])
    have ev : (Sem.run Try.prog (convert 22 9 (.slice (some ⟨r4, 0, none⟩) (m - k) (m - k))) w8) = .ok (.string (strOf (fun i => f (k + i) ^^^ sm (ap + k + i)) (m - k))) w8 := conv_str _ r4 0 (m - k) (m - k) w8 (fun i hi => by
      rw [Nat.zero_add, cell_of_row _ _ _ _ _ _ Row4.out, bytesArr_get _ _ _ hi])
    have hz := strOf_append (fun i => f i ^^^ sm (ap + i)) (fun i => f (k + i) ^^^ sm (ap + k + i)) (fun i => f i ^^^ sm (ap + i)) k m hk' (fun _ _ => rfl) (fun i _ => by show f (k + i) ^^^ sm (ap + k + i) = f (k + i) ^^^ sm (ap + (k + i)); rw [Nat.add_assoc])
    generalize strOf (fun i => f i ^^^ sm (ap + i)) k = zu at *
    generalize strOf (fun i => f (k + i) ^^^ sm (ap + k + i)) (m - k) = zv at *
    generalize hzs : strOf (fun i => f i ^^^ sm (ap + i)) m = zs at *
    have hzl : zu.size + zv.size = m := by rw [← ByteArray.size_append, hz, ← hzs, strOf_size]
    clear hzs
    go_wp2_with fail
    go_ret
    exact ⟨rfl, BelC.out.trans (HB8.out.mono BelC.out.size)⟩
theorem walk {H : Type} {enc : TypeId × Value → H} (w : World) (base : Nat) (v0 v1 : Value) (d0 d1 : DataW H) (p0 p1 : List MemPlace)
    (k0 : Value.okWide Try.prog w .any base 35 v0) (k1 : Value.okWide Try.prog w .any base 3 v1)
    (h0 : DataW.Trod enc Try.prog w 0 (fun _ => true) true 35 v0 d0 p0) (h1 : DataW.Trod enc Try.prog w 0 (fun _ => true) true 3 v1 d1 p1) :
    Calls Try.prog 5 #[v0, v1] w fun e w' => e = .returned (.bool true) ∧ Below w.heap.size w w' := by
  obtain ⟨key, ctr, at_, a, len, cap, f, rfl, ha0, ha1, hb, hlc, hcm⟩ := open_flow k0 h0
  obtain ⟨x, rfl, rfl, rfl, wx⟩ := open_int Try.underlying3 k1 h1
  have hx : -9223372036854775808 ≤ x ∧ x ≤ 9223372036854775807 := by simpa [Lit.wf, IntKind.min, IntKind.max, IntKind.signed, IntKind.bits] using wx
  exact parts_any key ctr f at_ x a len cap w ha0 ha1 hx.1 hx.2 hb hlc hcm
set_option maxRecDepth 100000 in
theorem lifted (os : Os) (started : os.Started) (H : Type) (enc : TypeId × Value → H) :
    ReturnsInHanded {} Try.checked os 5 .any (Rows.aesPartsSpec.pre6 enc Try.prog Try.f5 Rows.aesPartsRow.domain false) (Rows.aesPartsSpec.post enc Try.prog Try.f5 false true false false) := by
  refine returnsInHanded_of_change (C := Try.checked) own started (by kernel_rfl) Try.func5
    (ChangeSpec.witness6 (enc := enc) (C := Try.checked) false ⟨#[], #[.agg #[.int .u8 0, .int .u8 0, .int .u8 0, .int .u8 0, .int .u8 0, .int .u8 0, .int .u8 0, .int .u8 0, .int .u8 0, .int .u8 0, .int .u8 0, .int .u8 0, .int .u8 0, .int .u8 0, .int .u8 0, .int .u8 0, .int .u8 0, .int .u8 0, .int .u8 0, .int .u8 0, .int .u8 0, .int .u8 0, .int .u8 0, .int .u8 0, .int .u8 0, .int .u8 0, .int .u8 0, .int .u8 0, .int .u8 0, .int .u8 0, .int .u8 0, .int .u8 0, .int .i64 0, .slice none 0 0], .int .i64 0], []⟩ 8 (by kernel_rfl) (by kernel_rfl) (by kernel_rfl) (by kernel_rfl)) ?_
  intro W base args ds gs before hval0 hW hcnd _
  have hval : ∀ (j : Nat) t v, Try.f5.params[j]? = some t → args[j]? = some v → Value.okWide Try.prog W .any base t v := hval0
  have hW' := hW
  obtain ⟨p, q, hA0, hV, rfl, hfz, hnd⟩ := hW
  have hA : DataW.TrodAll enc Try.prog W 0 (fun _ => true) true Try.f5.params.toList args.toList ds p := hA0
  rw [Try.params5] at hA hval
  obtain ⟨v0, vs0, d0, ds0, p0, q0, hargs, rfl, rfl, h0, r0⟩ := trodAll_cons hA
  obtain ⟨v1, vs1, d1, ds1, p1, q1, rfl, rfl, rfl, h1, r1⟩ := trodAll_cons r0
  obtain ⟨rfl, rfl, rfl⟩ := trodAll_nil r1
  obtain rfl : args = #[v0, v1] := by cases args; simp_all
  obtain ⟨rfl, rfl⟩ := trodVars_none hV
  have k0 := h0
  have lt0 : ∀ x ∈ p0, x.block < W.heap.size := by obtain ⟨m, hm⟩ := k0; exact DataW.trod_lt m _ _ _ hm
  have k1 := h1
  have lt1 : ∀ x ∈ p1, x.block < W.heap.size := by obtain ⟨m, hm⟩ := k1; exact DataW.trod_lt m _ _ _ hm
  clear hA0 hval0
  refine (walk W base v0 v1 d0 d1 p0 p1 (hval 0 35 v0 rfl rfl) (hval 1 3 v1 rfl rfl) k0 k1).mono fun e W' ⟨he, bel⟩ => ?_
  subst he
  exact ⟨_, rfl, _, _, _, [], _, [], hW', trodAll_mk1 (shut_bool Try.underlying4 _), (trodAll_cons_mk (Below.trod laidOut (by kernel_rfl) (of_decide_eq_true (by kernel_rfl)) k0 bel lt0) (trodAll_cons_mk (Below.trod laidOut (by kernel_rfl) (of_decide_eq_true (by kernel_rfl)) k1 bel lt1) trodAll_mk0)), rfl, bel.frame _, fun h => by cases h⟩
theorem over : Rows.aesPartsRow.holds Try.pinned (OpenSpec.ofChange Rows.aesPartsSpec) :=
  OpenClaim.holds_of_wide 5 Try.f5 rfl rfl rfl rfl rfl rfl rfl ⟨rfl, rfl, rfl, rfl, rfl⟩ rfl rfl rfl rfl rfl (by kernel_rfl) Try.func5 (by kernel_rfl)
    (of_decide_eq_true (by kernel_rfl)) (by unfold Func.isWrapper; first | (rw [if_pos (by decide +kernel)]; kernel_rfl) | (rw [if_neg (by decide +kernel)]; exact ⟨rfl, rfl⟩))
    (fun os started H enc _ => lifted os started H enc)
theorem proved : Rows.AesPartsSaid := over
end Go.Proofs.Ytlfdkbjnfnnebac.aesParts
