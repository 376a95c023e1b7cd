import Derived.Test.YtlfdkbjnfnnebacRows
import Derived.Test.YtlfdkbjnfnnebacAesJ
import Derived.Test.YtlfdkbjnfnnebacAesMath
import Derived.Test.YtlfdkbjnfnnebacFlow
import Derived.Test.YtlfdkbjnfnnebacCallRegion
import Derived.Test.YtlfdkbjnfnnebacStr
import Derived.Test.YtlfdkbjnfnnebacWith
import Derived.WalkKit
import Derived.ProofKit
import Derived.OpenShut
import Derived.ShutString
import Derived.ChangeOld
import Derived.Below
import Derived.Deep.DeepCutAuto
import Derived.Deep.Upon
import Derived.Deep.AppendSrc
namespace Go.Proofs.Ytlfdkbjnfnnebac.aesCounts
open Go Go.ChangeShapes Go.WideShapes Go.ChangeAt Go.RowKit Go.BigFrame
set_option linter.unusedVariables false
theorem own : ownKnob Try.prog.godebug = none := by kernel_rfl
theorem laidOut : laidOutB Try.prog = true := by kernel_rfl
theorem own_slice2 {w : World} {B : Nat} {v : Value} {n : Nat} {f : Nat → BitVec 8} (hn : 0 < n) (h : w.ownsRow B 5 1 v n (firsts f n)) :
    ∃ g cap, v = .slice (some ⟨g, 0, none⟩) n cap ∧ n ≤ cap ∧ cap ≤ maxLen ∧ B ≤ g ∧ g < w.heap.size ∧ ∀ i, i < n → w.cell? ⟨g, i, none⟩ = some (.int .u8 (n8 (f i))) := by
  have h2 := h
  rcases h.2 with ⟨_, h0⟩ | ⟨g, cap, cur, rfl, hB, hg, hnc, hcm, _⟩
  · omega
  · obtain ⟨g', cap', e, _, _, hc⟩ := own_slice hn h2
    simp only [Value.slice.injEq, Option.some.injEq, Addr.mk.injEq] at e
    obtain ⟨⟨rfl, _⟩, _, rfl⟩ := e
    exact ⟨g, cap, rfl, hnc, hcm, hB, lt_of_heap hg, fun i hi => by have := hc i hi; rwa [Nat.zero_add] at this⟩
theorem src_cells {wa : World} {b off len : Nat} {f : Nat → BitVec 8} (hb : b < wa.heap.size) (h : ∀ i, i < len → wa.cell? ⟨b, off + i, none⟩ = some (.int .u8 (n8 (f i)))) (o : Obj) (n : Nat) (hn : n ≤ len) :
    ∀ (j : Nat) (u : Value), (firsts f n)[j]? = some u → (wa.alloc o).cell? ((⟨b, off, none⟩ : Addr).add j) = some u := by
  intro j u hj
  have hj' : j < n := by have := (List.getElem?_eq_some_iff.1 hj).1; rwa [firsts_len] at this
  have hu : u = .int .u8 (n8 (f j)) := by simpa [firsts, hj'] using hj.symm
  rw [hu, show ((⟨b, off, none⟩ : Addr).add j) = ⟨b, off + j, none⟩ from by unfold Addr.add; split <;> simp_all]
  rw [Below.cell (Below.refl wa.heap.size wa |>.alloc (Nat.le_refl _) o) (p := ⟨b, off + j, none⟩) hb]
  exact h j (by omega)
theorem src_one (f : Nat → BitVec 8) (n : Nat) : ∀ u ∈ firsts f n, u.oneCell' = true := by
  intro u hu
  obtain ⟨j, _, rfl⟩ := List.mem_map.1 hu
  rfl
/-- A counter's bytes: twelve that stay and a word's four. -/
def ctrOf (ctr : Nat → BitVec 8) (x : BitVec 32) (i : Nat) : BitVec 8 := if i < 12 then ctr i else wb x (i - 12)
theorem four_cells (w : World) (a b c d : Value) (t : TypeId) : ∀ (j : Nat) (u : Value), [a, b, c, d][j]? = some u → (w.alloc (.cells #[a, b, c, d] t)).cell? ((⟨w.heap.size, 0, none⟩ : Addr).add j) = some u := by
  intro j u hj
  rw [show ((⟨w.heap.size, 0, none⟩ : Addr).add j) = ⟨w.heap.size, j, none⟩ from by unfold Addr.add; split <;> simp_all]
  rw [cell_of_row _ _ _ _ _ _ (heap_alloc_last w _)]
  simpa using hj
theorem four_one (a b c d : Int) : ∀ u ∈ [Value.int .u8 a, .int .u8 b, .int .u8 c, .int .u8 d], u.oneCell' = true := by
  intro u hu
  simp at hu
  rcases hu with rfl | rfl | rfl | rfl <;> rfl
theorem four_firsts (ctr : Nat → BitVec 8) (y : BitVec 32) : firsts ctr 12 ++ [.int .u8 (n8 ((y >>> 24).setWidth 8)), .int .u8 (n8 ((y >>> 16).setWidth 8)), .int .u8 (n8 ((y >>> 8).setWidth 8)), .int .u8 (n8 (y.setWidth 8))] = firsts (ctrOf ctr y) 16 := by
  have h3 : wb y 3 = y.setWidth 8 := by simp [wb]
  have h : firsts (ctrOf ctr y) 16 = firsts ctr 12 ++ [.int .u8 (n8 (wb y 0)), .int .u8 (n8 (wb y 1)), .int .u8 (n8 (wb y 2)), .int .u8 (n8 (wb y 3))] := by
    rw [← firsts_snoc _ 15, ← firsts_snoc _ 14, ← firsts_snoc _ 13, ← firsts_snoc _ 12]
    have : firsts (ctrOf ctr y) 12 = firsts ctr 12 := by
      unfold firsts
      rw [List.map_inj_left]
      intro i hi
      have := List.mem_range.1 hi
      simp [ctrOf, this]
    rw [this]
    simp [ctrOf]
  rw [h, h3]
  simp [wb]
theorem arith_run (op : BinOp) (t : TypeId) (x y : Operand) (k : IntKind) (n : Int) (v r : Value) (w : World) (h : binOp op t (.int k n) v = pure r) :
    (do eqGuard op t x y (.int k n) v; (binOp op t (.int k n) v >>= fun v => pure (Next.value v)) : Sem Next).run Try.prog w = .ok (.value r) w := by
  rw [eqGuard_at_int, h]
  rfl
theorem run_mid (r : Nat) (lo hi : Int) (l m c : Nat) (hlo : lo = (l : Int)) (hhi : hi = ((l + 16 : Nat) : Int)) (hc : l + 16 ≤ c) (w : World) :
    (Instr.sliceAt 22 (.slice (some ⟨r, 0, none⟩) m c) (some (.int .i64 lo)) (some (.int .i64 hi)) none).run Try.prog w = .ok (.slice (some ⟨r, l, none⟩) 16 (c - l)) w := by
  subst hlo hhi
  have hu : Try.prog.underlying 22 = some (.slice (Try.prog.elem 22)) := by kernel_rfl
  rw [run_sliceAt_slice (t := 22) (h := hu), run_slice_any (t := 22) (ht := hu)]
  have h0 : (0 : Int) ≤ (l : Int) := by omega
  have h1 : (0 : Int) ≤ ((l + 16 : Nat) : Int) := by omega
  have h2 : ((l + 16 : Nat) : Int) ≤ (c : Int) := by omega
  have h4 : ¬ c = l := by omega
  simp [Instr.sliceBounds, go_sem, -Int.natCast_add, h0, h1, h2, h4, Addr.add]
  exact fun h => h.symm
theorem wd_sum (p q r s : BitVec 8) : p.setWidth 32 <<< 24 + q.setWidth 32 <<< 16 + r.setWidth 32 <<< 8 + s.setWidth 32 = wd p q r s := by
  have h1 : (p.setWidth 32 <<< 24) &&& (q.setWidth 32 <<< 16) = 0#32 := by
    apply BitVec.eq_of_getLsbD_eq
    intro i hi
    rcases lt32 i hi with rfl | rfl | rfl | rfl | rfl | rfl | rfl | rfl | rfl | rfl | rfl | rfl | rfl | rfl | rfl | rfl | rfl | rfl | rfl | rfl | rfl | rfl | rfl | rfl | rfl | rfl | rfl | rfl | rfl | rfl | rfl | rfl <;> simp
  rw [BitVec.add_eq_or_of_and_eq_zero _ _ h1]
  have h2 : (p.setWidth 32 <<< 24 ||| q.setWidth 32 <<< 16) &&& (r.setWidth 32 <<< 8) = 0#32 := by
    apply BitVec.eq_of_getLsbD_eq
    intro i hi
    rcases lt32 i hi with rfl | rfl | rfl | rfl | rfl | rfl | rfl | rfl | rfl | rfl | rfl | rfl | rfl | rfl | rfl | rfl | rfl | rfl | rfl | rfl | rfl | rfl | rfl | rfl | rfl | rfl | rfl | rfl | rfl | rfl | rfl | rfl <;> simp
  rw [BitVec.add_eq_or_of_and_eq_zero _ _ h2]
  have h3 : (p.setWidth 32 <<< 24 ||| q.setWidth 32 <<< 16 ||| r.setWidth 32 <<< 8) &&& s.setWidth 32 = 0#32 := by
    apply BitVec.eq_of_getLsbD_eq
    intro i hi
    rcases lt32 i hi with rfl | rfl | rfl | rfl | rfl | rfl | rfl | rfl | rfl | rfl | rfl | rfl | rfl | rfl | rfl | rfl | rfl | rfl | rfl | rfl | rfl | rfl | rfl | rfl | rfl | rfl | rfl | rfl | rfl | rfl | rfl | rfl <;> simp
  rw [BitVec.add_eq_or_of_and_eq_zero _ _ h3]
  unfold wd
  apply BitVec.eq_of_getLsbD_eq
  intro i hi
  rcases lt32 i hi with rfl | rfl | rfl | rfl | rfl | rfl | rfl | rfl | rfl | rfl | rfl | rfl | rfl | rfl | rfl | rfl | rfl | rfl | rfl | rfl | rfl | rfl | rfl | rfl | rfl | rfl | rfl | rfl | rfl | rfl | rfl | rfl <;> simp
theorem ctrOf_of (ctr : Nat → BitVec 8) (d : Nat) : W4.of (ctrOf ctr ((W4.of ctr).d + BitVec.ofNat 32 d)) = (W4.of ctr).plus d := by
  have h := wd_wb ((W4.of ctr).d + BitVec.ofNat 32 d)
  simp only [W4.of, ctrOf, W4.plus, Nat.reduceLT, if_true, if_false, Nat.reduceSub]
  simp only [W4.of] at h
  rw [h]
theorem strm_at (ks : Nat → BitVec 32) (x : W4) (d i : Nat) (hi : i < 16) : 0#8 ^^^ strm ks x (0 + (16 * d + i)) = (turned sbox ks (x.plus d)).byte i := by
  rw [BitVec.zero_xor]
  unfold strm
  rw [show (0 + (16 * d + i)) / 16 = d by omega, show (0 + (16 * d + i)) % 16 = i by omega]
theorem quiet_of_run {P : Program} {x : Sem Value} {v : Value} {w : World} (h : x.run P w = .ok v w) : (x >>= fun v => pure (Next.value v)).run P w = .ok (.value v) w := by
  rw [Sem.run_bind, h]; rfl
theorem run_field1 (w : World) (b : Nat) : (Instr.fieldAt 35 (.pointer (some ⟨b, 0, none⟩)) 1).run Try.prog w = .ok (.pointer (some ⟨b, 16, none⟩)) w := by
  first
  | (with_unfolding_all rfl)
  | simp [go_sem, Try.underlying35]
theorem run_arr16 (w : World) (b o : Nat) : (Instr.sliceAt 33 (.pointer (some ⟨b, o, none⟩)) none none none).run Try.prog w = .ok (.slice (some ⟨b, o, none⟩) 16 16) w := by
  first
  | (with_unfolding_all rfl)
  | simp [go_sem]
theorem le_mod (x : Int) (n : Nat) (hn : n < 9223372036854775806 := by omega) : ∃ k : Nat, k < n + 1 ∧ wrap64 ((IntKind.u64.wrap x).tmod ((n : Int) + 1)) = (k : Int) := by
  have e : IntKind.u64.wrap x = x % 18446744073709551616 := by simp [IntKind.wrap_u64]
  have h0 : 0 ≤ IntKind.u64.wrap x := by rw [e]; omega
  rw [Int.tmod_eq_emod_of_nonneg h0]
  have h1 : 0 ≤ IntKind.u64.wrap x % ((n : Int) + 1) := Int.emod_nonneg _ (by omega)
  have h2 : IntKind.u64.wrap x % ((n : Int) + 1) < (n : Int) + 1 := Int.emod_lt_of_pos _ (by omega)
  obtain ⟨k, hk⟩ := Int.eq_ofNat_of_zero_le h1
  refine ⟨k, by omega, ?_⟩
  rw [hk]
  unfold wrap64
  omega
set_option maxHeartbeats 8000000 in
set_option maxRecDepth 100000 in
theorem counts_any (key ctr f : Nat → BitVec 8) (at_ cnt_ : Int) (sl : Value) (w : World) (hc0 : -9223372036854775808 ≤ cnt_) (hc1 : cnt_ ≤ 9223372036854775807) :
    Calls Try.prog 7 #[.agg (flowCells key ctr at_ sl), .int .i64 cnt_] w fun e w' => e = .returned (.bool true) ∧ Below w.heap.size w w' := by
  go_enter Try.func7, Try.ntmps7
  go_wp2_with fail
  have row : (w.alloc (.cells (flowCells key ctr at_ sl) 35)).heap[w.heap.size]? = some (.cells (flowCells key ctr at_ sl) 35 (0, 0)) := heap_alloc_last _ _
  have bel : Below w.heap.size w (w.alloc (.cells (flowCells key ctr at_ sl) 35)) := (Below.refl _ _).alloc (Nat.le_refl _) _
  generalize hW : w.alloc _ = wc at *
  clear hW
  have RowC := Lib.hid row
  have BelC := Lib.hid bel
  clear row bel
  refine (new_ok key w.heap.size 0 16 wc (fun i hi => by rw [cell_of_row _ _ _ _ _ _ RowC.out, Nat.zero_add]; exact flow_key _ _ _ _ i hi) (lt_of_heap RowC.out)).mono ?_
  rintro e w1 ⟨rfl, q, hk1⟩
  have hci := hk1.cipher
  have hb1 : Below wc.heap.size wc w1 := hk1.below
  have HB1 := Lib.hid hb1
  clear hk1 hb1
  go_wp2_with fail
  refine (turns_any _).mono ?_
  rintro e w2 ⟨rfl, hb2⟩
  have hc2 := hci.later hb2
  have hb2' := HB1.out.trans (hb2.mono HB1.out.size)
  have HB2 := Lib.hid hb2'
  clear hci hb2 hb2' HB1
  go_wp2_with fail
  obtain ⟨c0, hc0', ec0⟩ : ∃ k : Nat, k < 6 ∧ wrap64 ((IntKind.u64.wrap cnt_).tmod 6) = (k : Int) := le_mod cnt_ 5
  obtain ⟨c, hc, ec⟩ : ∃ c : Nat, c = c0 + 1 ∧ wrap64 (1 + wrap64 ((IntKind.u64.wrap cnt_).tmod 6)) = (c : Int) := ⟨c0 + 1, rfl, by rw [ec0]; unfold wrap64; omega⟩
  simp only [ec]
  clear ec ec0
  have hcl : 1 ≤ c ∧ c ≤ 6 := by omega
  clear hc hc0'
  have RowX := fun (w' : World) (h : Below wc.heap.size wc w') => (h.block _ (lt_of_heap RowC.out)).trans RowC.out
  have ctrX := Lib.hid (fun (w' : World) (h : Below wc.heap.size wc w') (i : Nat) (hi : i < 16) => (show w'.cell? ⟨w.heap.size, 16 + i, none⟩ = some (.int .u8 (n8 (ctr i))) by rw [cell_of_row _ _ _ _ _ _ (RowX w' h)]; exact flow_ctr _ _ _ _ i hi))
  clear RowX
  have ew : IntKind.i64.wrap (16 * (c : Int)) = ((16 * c : Nat) : Int) := by rw [IntKind.wrap_i64]; omega
  have mk : ∀ w : World, (Instr.makeSlice 22 (.int .i64 (IntKind.i64.wrap (16 * (c : Int)))) (.int .i64 (IntKind.i64.wrap (16 * (c : Int))))).run Try.prog w = .ok (.slice (some ⟨w.heap.size, 0, none⟩) (16 * c) (16 * c)) (w.alloc (.cells (bytesArr (fun _ => 0#8) (16 * c)) 5)) := fun w => by
    rw [ew]; exact run_make_bytes (16 * c) (by omega) w
  clear ew
  have HB2' := Lib.hid ((HB2.out.alloc HB2.out.size (.cells (bytesArr (fun _ => 0#8) (16 * c)) 5)).drew)
  have Hc2 := Lib.hid (hc2.later (((Below.refl w2.heap.size w2).alloc (Nat.le_refl _) (.cells (bytesArr (fun _ => 0#8) (16 * c)) 5)).drew))
  have Hx2 := Lib.hid (fun (i : Nat) (hi : i < 16 * c) => (show (w2.alloc (.cells (bytesArr (fun _ => 0#8) (16 * c)) 5)).drew.cell? ⟨w2.heap.size, 0 + i, none⟩ = some (.int .u8 (n8 0#8)) by
    show (w2.alloc _).cell? _ = _
    rw [cell_of_row _ _ _ _ _ _ (heap_alloc_last w2 _), Nat.zero_add]; exact bytesArr_get _ _ _ hi))
  have Hl2 := Lib.hid (show w2.heap.size < (w2.alloc (.cells (bytesArr (fun _ => 0#8) (16 * c)) 5)).drew.heap.size by show _ < (w2.alloc _).heap.size; simp)
  clear hc2
  go_region_with (go_at_call 10; refine (stream_ok (sched key) ctr (fun _ => 0#8) wc.heap.size w.heap.size 16 16 0 (some ⟨w2.heap.size, 0, none⟩) (16 * c) (16 * c) _ Hc2.out (ctrX.out _ HB2'.out) (Nat.lt_of_lt_of_le (lt_of_heap RowC.out) HB2'.out.size) (by omega) (by omega) (.inr ⟨w2.heap.size, 0, rfl, Hl2.out, Hx2.out⟩)).mono ?_; rintro e w3 ⟨r1, rfl, hb3, hr1, row1⟩)
  have hc3 := Hc2.out.later hb3
  have HB3 := Lib.hid (HB2'.out.trans (hb3.mono HB2'.out.size))
  have Row1 := Lib.hid row1
  have c12 := ctrX.out w3 HB3.out 12 (by omega)
  have c13 := ctrX.out w3 HB3.out 13 (by omega)
  have c14 := ctrX.out w3 HB3.out 14 (by omega)
  have c15 := ctrX.out w3 HB3.out 15 (by omega)
  clear hb3 row1 mk Hc2 Hx2 Hl2 HB2' hr1
  simp only [Act.put, List.setIfInBounds_toArray]
  go_wp2_with fail
  simp only [wd_sum]
  clear c12 c13 c14 c15
  generalize hN : wd (ctr 12) (ctr 13) (ctr 14) (ctr 15) = nn
  have HN := Lib.hid (show (W4.of ctr).d = nn from hN)
  clear hN
  obtain ⟨i0, hi, hz, hs, hby⟩ : ∃ i0, Try.prog.info? 5 = some i0 ∧ i0.zero = some (.int .u8 0) ∧ i0.size = 1 ∧ i0.bytes = 1 := by
    have h := info_u8
    cases hq : Try.prog.info? 5 with
    | none => simp [hq] at h
    | some i => exact ⟨i, rfl, by simpa [hq] using h⟩
  have Hi := Lib.hid hi
  have Hz := Lib.hid hz
  have Hs := Lib.hid hs
  have Hy := Lib.hid hby
  clear hi hz hs hby
  have Hc3 := Lib.hid hc3
  clear hc3
  go_loopw [9] (fun s9 wr => ∃ d : Nat, d ≤ c ∧ s9 = .int .i64 (d : Int) ∧ Below w3.heap.size w3 wr)
    (fun s9 _ => c - (intOf s9).toNat)
  case atStart => exact ⟨0, by omega, rfl, Below.refl _ _⟩
  case round =>
    obtain ⟨d, hd, rfl, hbr⟩ := hrel
    by_cases hdc : d < c
    · have hdI : (d : Int) < (c : Int) := by omega
      have e1 : IntKind.u32.wrap (d : Int) = n32 (BitVec.ofNat 32 d) := by rw [wrap_n32, ofInt_lit32]
      have HBR := Lib.hid (HB3.out.trans (hbr.mono HB3.out.size))
      have Hbr := Lib.hid hbr
      clear hbr
      have Hc := Lib.hid (fun (i : Nat) (hi : i < 12) => ctrX.out wr HBR.out i (by omega))
      have Hsz := Lib.hid (Nat.lt_of_lt_of_le (lt_of_heap RowC.out) HBR.out.size)
      go_wp2_with (at_builtin; refine wpList_append_where _ rfl (.tmp 75) (.tmp 77) 22 rfl wr.heap.size 5 i0 (.int .u8 0) 1 1 under_bytes Hi.out Hz.out Hs.out Hy.out rfl (by decide) _ 0 [] rfl (World.ownsRow_made wr #[] 0 (Nat.le_refl _) (by decide) rfl) ⟨w.heap.size, 16, none⟩ 12 16 (firsts ctr 12) rfl (by rw [firsts_len, Nat.mul_one]) (src_cells Hsz.out Hc.out _ 12 (by omega)) (src_one ctr 12) (by decide) (by decide) (by simp) ?_)
      intro v1 w4 hown1 hgrow1 _
      try simp only [Nat.zero_add, List.nil_append] at hown1
      have hB1 := ((Below.refl wr.heap.size wr).alloc (Nat.le_refl _) (.cells #[] 5)).grown hgrow1 (by simp) (fun k hk => by simp [Value.ownBlock] at hk; omega)
      have hown1' := hown1
      obtain ⟨g1, cg1, rfl, _, _, hBg1, hlt1, _⟩ := own_slice2 (by omega) hown1'
      clear hown1' hgrow1
      have Hown1 := Lib.hid hown1
      have HB1 := Lib.hid hB1
      clear hown1 hB1
      generalize hy : nn + BitVec.ofNat 32 d = y
      go_wp2_with (at_builtin; refine wpList_append_where _ rfl (.tmp 78) (.tmp 90) 22 rfl wr.heap.size 5 i0 (.int .u8 0) 1 1 under_bytes Hi.out Hz.out Hs.out Hy.out rfl (by decide) _ 12 (firsts ctr 12) rfl (Hown1.out.alloc _) ⟨w4.heap.size, 0, none⟩ 4 4 [.int .u8 (n8 ((y >>> 24).setWidth 8)), .int .u8 (n8 ((y >>> 16).setWidth 8)), .int .u8 (n8 ((y >>> 8).setWidth 8)), .int .u8 (n8 (y.setWidth 8))] rfl rfl (four_cells w4 _ _ _ _ _) (four_one _ _ _ _) (by decide) (by decide) (by have := HB1.out.size; simp; omega) ?_)
      intro v2 w5 hown2 hgrow2 _
      try simp only [Nat.reduceAdd] at hown2
      rw [four_firsts] at hown2
      have hB2 := (HB1.out.alloc HB1.out.size (.cells #[.int .u8 (n8 ((y >>> 24).setWidth 8)), .int .u8 (n8 ((y >>> 16).setWidth 8)), .int .u8 (n8 ((y >>> 8).setWidth 8)), .int .u8 (n8 (y.setWidth 8))] 5)).grown hgrow2 (by have := HB1.out.size; simp; omega) (fun k hk => by simp [Value.ownBlock] at hk; omega)
      obtain ⟨g2, cg2, rfl, _, _, hBg2, hlt2, hcells2⟩ := own_slice2 (by omega) hown2
      clear hown2 hgrow2 Hown1 HB1
      have HB5 := Lib.hid hB2
      have Hcells2 := Lib.hid hcells2
      clear hB2 hcells2
      have hof : W4.of (ctrOf ctr y) = (W4.of ctr).plus d := by rw [← hy, ← HN.out]; exact ctrOf_of ctr d
      have HC5 := Lib.hid ((Hc3.out.later Hbr.out).later HB5.out)
      go_wp2_with fail
      refine (block_ok (sched key) (ctrOf ctr y) wc.heap.size g2 0 cg2 w5 HC5.out (fun i hi => by rw [Nat.zero_add]; exact Hcells2.out i hi) hlt2).mono ?_
      rintro e w6 ⟨r, rfl, hf⟩
      rw [hof] at hf
      generalize hG : (turned sbox (sched key) ((W4.of ctr).plus d)).byte = G at hf
      have HG := Lib.hid hG
      have F := Lib.hid hf
      have HB6 := Lib.hid (Hbr.out.trans ((HB5.out.trans (hf.below.mono HB5.out.size)).mono Hbr.out.size))
      clear hG hf hof HC5 HB5 Hcells2 hlt2 hBg2
      go_wp2_with fail
      have eb : (Sem.run Try.prog (convert 22 9 (.slice (some ⟨r, 0, none⟩) 16 16)) w6.drew) = .ok (.string (strOf G 16)) w6.drew := conv_str G r 0 16 16 w6.drew (fun i hi => by
        rw [Nat.zero_add]; show w6.cell? _ = _; exact F.out.cell i hi)
      have es : (Sem.run Try.prog (convert 22 9 (.slice (some ⟨r1, 16 * d, none⟩) 16 (16 * c - 16 * d))) w6.drew) = .ok (.string (strOf G 16)) w6.drew := conv_str G r1 (16 * d) 16 (16 * c - 16 * d) w6.drew (fun i hi => by
        show w6.cell? _ = _
        rw [HB6.out.cell (p := ⟨r1, 16 * d + i, none⟩) (lt_of_heap Row1.out), cell_of_row _ _ _ _ _ _ Row1.out, bytesArr_get _ _ _ (by omega), strm_at _ _ _ _ hi, HG.out])
      refine region_quiet mixedOrders (by kernel_rfl) ?_
      repeat (go_big_quiet_step (fail))
      refine wpQuiet_nil ?_
      clear eb es
      go_wp2_with fail
      go_roundw
      case rel => exact ⟨d + 1, by omega, by go_num, HB6.out.drew⟩
      case measure => simp [intOf]; omega
    · obtain rfl : d = c := by omega
      go_wp2_with fail
      go_ret
      exact ⟨rfl, BelC.out.trans ((HB3.out.trans (hbr.mono HB3.out.size)).mono BelC.out.size)⟩
theorem walk {H : Type} {enc : TypeId × Value → H} (w : World) (base : Nat) (v0 v1 : Value) (d0 d1 : DataW H) (p0 p1 : List MemPlace)
    (k0 : Value.okWide Try.prog w .any base 35 v0) (k1 : Value.okWide Try.prog w .any base 3 v1)
    (h0 : DataW.Trod enc Try.prog w 0 (fun _ => true) true 35 v0 d0 p0) (h1 : DataW.Trod enc Try.prog w 0 (fun _ => true) true 3 v1 d1 p1) :
    Calls Try.prog 7 #[v0, v1] w fun e w' => e = .returned (.bool true) ∧ Below w.heap.size w w' := by
  obtain ⟨key, ctr, at_, a, len, cap, f, rfl, ha0, ha1, hb, hlc, hcm⟩ := open_flow k0 h0
  obtain ⟨x, rfl, rfl, rfl, wx⟩ := open_int Try.underlying3 k1 h1
  have hx : -9223372036854775808 ≤ x ∧ x ≤ 9223372036854775807 := by simpa [Lit.wf, IntKind.min, IntKind.max, IntKind.signed, IntKind.bits] using wx
  exact counts_any key ctr f at_ x _ w hx.1 hx.2
set_option maxRecDepth 100000 in
theorem lifted (os : Os) (started : os.Started) (H : Type) (enc : TypeId × Value → H) :
    ReturnsInHanded {} Try.checked os 7 .any (Rows.aesCountsSpec.pre6 enc Try.prog Try.f7 Rows.aesCountsRow.domain false) (Rows.aesCountsSpec.post enc Try.prog Try.f7 false true false false) := by
  refine returnsInHanded_of_change (C := Try.checked) own started (by kernel_rfl) Try.func7
    (ChangeSpec.witness6 (enc := enc) (C := Try.checked) false ⟨#[], #[.agg #[.int .u8 0, .int .u8 0, .int .u8 0, .int .u8 0, .int .u8 0, .int .u8 0, .int .u8 0, .int .u8 0, .int .u8 0, .int .u8 0, .int .u8 0, .int .u8 0, .int .u8 0, .int .u8 0, .int .u8 0, .int .u8 0, .int .u8 0, .int .u8 0, .int .u8 0, .int .u8 0, .int .u8 0, .int .u8 0, .int .u8 0, .int .u8 0, .int .u8 0, .int .u8 0, .int .u8 0, .int .u8 0, .int .u8 0, .int .u8 0, .int .u8 0, .int .u8 0, .int .i64 0, .slice none 0 0], .int .i64 0], []⟩ 8 (by kernel_rfl) (by kernel_rfl) (by kernel_rfl) (by kernel_rfl)) ?_
  intro W base args ds gs before hval0 hW hcnd _
  have hval : ∀ (j : Nat) t v, Try.f7.params[j]? = some t → args[j]? = some v → Value.okWide Try.prog W .any base t v := hval0
  have hW' := hW
  obtain ⟨p, q, hA0, hV, rfl, hfz, hnd⟩ := hW
  have hA : DataW.TrodAll enc Try.prog W 0 (fun _ => true) true Try.f7.params.toList args.toList ds p := hA0
  rw [Try.params7] at hA hval
  obtain ⟨v0, vs0, d0, ds0, p0, q0, hargs, rfl, rfl, h0, r0⟩ := trodAll_cons hA
  obtain ⟨v1, vs1, d1, ds1, p1, q1, rfl, rfl, rfl, h1, r1⟩ := trodAll_cons r0
  obtain ⟨rfl, rfl, rfl⟩ := trodAll_nil r1
  obtain rfl : args = #[v0, v1] := by cases args; simp_all
  obtain ⟨rfl, rfl⟩ := trodVars_none hV
  have k0 := h0
  have lt0 : ∀ x ∈ p0, x.block < W.heap.size := by obtain ⟨m, hm⟩ := k0; exact DataW.trod_lt m _ _ _ hm
  have k1 := h1
  have lt1 : ∀ x ∈ p1, x.block < W.heap.size := by obtain ⟨m, hm⟩ := k1; exact DataW.trod_lt m _ _ _ hm
  clear hA0 hval0
  refine (walk W base v0 v1 d0 d1 p0 p1 (hval 0 35 v0 rfl rfl) (hval 1 3 v1 rfl rfl) k0 k1).mono fun e W' ⟨he, bel⟩ => ?_
  subst he
  exact ⟨_, rfl, _, _, _, [], _, [], hW', trodAll_mk1 (shut_bool Try.underlying4 _), (trodAll_cons_mk (Below.trod laidOut (by kernel_rfl) (of_decide_eq_true (by kernel_rfl)) k0 bel lt0) (trodAll_cons_mk (Below.trod laidOut (by kernel_rfl) (of_decide_eq_true (by kernel_rfl)) k1 bel lt1) trodAll_mk0)), rfl, bel.frame _, fun h => by cases h⟩
theorem over : Rows.aesCountsRow.holds Try.pinned (OpenSpec.ofChange Rows.aesCountsSpec) :=
  OpenClaim.holds_of_wide 7 Try.f7 rfl rfl rfl rfl rfl rfl rfl ⟨rfl, rfl, rfl, rfl, rfl⟩ rfl rfl rfl rfl rfl (by kernel_rfl) Try.func7 (by kernel_rfl)
    (of_decide_eq_true (by kernel_rfl)) (by unfold Func.isWrapper; first | (rw [if_pos (by decide +kernel)]; kernel_rfl) | (rw [if_neg (by decide +kernel)]; exact ⟨rfl, rfl⟩))
    (fun os started H enc _ => lifted os started H enc)
theorem proved : Rows.AesCountsSaid := over
end Go.Proofs.Ytlfdkbjnfnnebac.aesCounts
