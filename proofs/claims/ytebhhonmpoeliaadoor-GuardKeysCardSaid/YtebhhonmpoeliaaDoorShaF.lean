/-
  sha: Write: what a hash holds behind some bytes more.
-/
import Derived.Test.YtebhhonmpoeliaaDoorShaE
import Derived.Test.YtebhhonmpoeliaaDoorBytes
namespace Go.Proofs.YtebhhonmpoeliaaDoor
open Go Go.RowKit Go.BigFrame
set_option linter.unusedSimpArgs false
set_option linter.unusedVariables false
theorem quiet_load {P : Program} {x : Sem Value} {v : Value} {w : World} (h : x.run P w = .ok v w) : (x >>= fun v => pure (Next.value v)).run P w = .ok (.value v) w := by
  rw [Sem.run_bind, h]
  rfl
theorem quietAt_run {P : Program} {o : Oper} {a : Act} {C : World → Prop} {w : World} {v : Value} (h : (execOp a.eval o).run P w = .ok (.value v) w) : o.quietAt P a C w v := by
  unfold Oper.quietAt
  rw [h]
  exact ⟨rfl, rfl⟩
/-- The hash in block b has taken the first n bytes of f. -/
def HashSt (w : World) (b : Nat) (f : Nat → BitVec 8) (n : Nat) : Prop :=
  ∃ v g, HashRow w b v g n ∧ (n ≠ 0 → v = W8.blocks kW startW f (n / 64)) ∧ ∀ i, i < n % 64 → g i = f (64 * (n / 64) + i)
theorem HashSt.later {w w' : World} {b : Nat} {f : Nat → BitVec 8} {n : Nat} (h : HashSt w b f n) (hb : Below w.heap.size w w') : HashSt w' b f n := by
  obtain ⟨v, g, h1, h2, h3⟩ := h
  exact ⟨v, g, h1.later hb, h2, h3⟩
theorem HashSt.lt {w : World} {b : Nat} {f : Nat → BitVec 8} {n : Nat} (h : HashSt w b f n) : b < w.heap.size := by
  obtain ⟨v, g, h1, h2, h3⟩ := h
  exact lt_row h1
theorem HashSt.chg {w w' : World} {b b' : Nat} {f : Nat → BitVec 8} {n : Nat} (h : HashSt w b f n) (hc : Chg b' w w') (hb : b ≠ b') : HashSt w' b f n := by
  obtain ⟨v, g, h1, h2, h3⟩ := h
  exact ⟨v, g, hc.row hb h1, h2, h3⟩
theorem HashSt.congr {w : World} {b : Nat} {f f' : Nat → BitVec 8} {n : Nat} (h : HashSt w b f n) (e : ∀ i, i < n → f i = f' i) : HashSt w b f' n := by
  obtain ⟨v, g, h1, h2, h3⟩ := h
  refine ⟨v, g, h1, fun h0 => ?_, fun i hi => ?_⟩
  · rw [h2 h0]; exact W8.blocks_congr _ (fun i hi => e i (by omega))
  · rw [h3 i hi]; exact e _ (by omega)
theorem run_from (a : Option Addr) (k m c : Nat) (hk : k ≤ m) : ∃ a', (∀ w : World, (Instr.sliceAt 40 (.slice a m c) (some (.int .i64 (k : Int))) none none).run Tryd.prog w = .ok (.slice a' (m - k) (c - k)) w) ∧ (c ≠ k → a' = a.map (·.add k)) ∧ (c = k → a' = a) := by
  refine ⟨if c = k then a else a.map (·.add k), fun w => ?_, fun h => by rw [if_neg h], fun h => by rw [if_pos h]⟩
  have hu : Tryd.prog.underlying 40 = some (.slice (Tryd.prog.elem 40)) := by kernel_rfl
  rw [run_sliceAt_slice (t := 40) (h := hu), run_slice_any (t := 40) (ht := hu)]
  have h0 : (0 : Int) ≤ (k : Int) := by omega
  have h1 : (k : Int) ≤ (m : Int) := by omega
  simp [Instr.sliceBounds, go_sem, h0, h1]
theorem run_arr64 (w : World) (b o h : Nat) (hh : h < 64) : (Instr.sliceAt 48 (.pointer (some ⟨b, o, none⟩)) (some (.int .i64 (h : Int))) none none).run Tryd.prog w = .ok (.slice (some ⟨b, o + h, none⟩) (64 - h) (64 - h)) w := by
  have h0 : (0 : Int) ≤ (h : Int) := by omega
  have h1 : (h : Int) ≤ 64 := by omega
  have hne : ¬ 64 = h := by omega
  have e : ((⟨b, o, none⟩ : Addr).add h) = ⟨b, o + h, none⟩ := Addr.add_mid _ _ _
  simp [go_sem, h0, h1, hne, e, slicedAt]
theorem run_arr64_all (w : World) (b o : Nat) : (Instr.sliceAt 48 (.pointer (some ⟨b, o, none⟩)) none none none).run Tryd.prog w = .ok (.slice (some ⟨b, o, none⟩) 64 64) w := by
  first
  | (with_unfolding_all rfl)
  | simp [go_sem]
/-- What stands behind the first k bytes. -/
theorem bytesIn_from {w : World} {a a' : Option Addr} {k m c : Nat} {p : Nat → BitVec 8} (h : BytesIn w a m p) (hk : k ≤ m) (hm : m ≤ c) (ha : c ≠ k → a' = a.map (·.add k)) : BytesIn w a' (m - k) (fun i => p (k + i)) := by
  refine ⟨by have := h.1; omega, ?_⟩
  by_cases hkm : k = m
  · exact .inl (by omega)
  · rcases h.2 with h0 | ⟨b, o, rfl, hb, hc⟩
    · exact .inl (by omega)
    · refine .inr ⟨b, o + k, ?_, hb, fun i hi => ?_⟩
      · rw [ha (by omega)]
        show some ((⟨b, o, none⟩ : Addr).add k) = _
        rw [Addr.add_mid]
      · rw [Nat.add_assoc]; exact hc (k + i) (by omega)
theorem apart_from {a a' : Option Addr} {k m c b : Nat} (h : 0 < m → ∀ x, a = some x → x.block ≠ b) (h1 : c ≠ k → a' = a.map (·.add k)) (h2 : c = k → a' = a) : 0 < m - k → ∀ x, a' = some x → x.block ≠ b := by
  intro hm x e
  have h := h (by omega)
  by_cases hc : c = k
  · exact h x ((h2 hc).symm.trans e)
  · rw [h1 hc] at e
    cases a with
    | none => cases e
    | some y =>
      have e2 : some (y.add k) = some x := e
      injection e2 with e2
      have e3 : (y.add k).block = y.block := by unfold Addr.add; split <;> rfl
      rw [← e2, e3]
      exact h y rfl
theorem bytesIn_lt {w : World} {a : Option Addr} {m : Nat} {p : Nat → BitVec 8} (h : BytesIn w a m p) : 0 < m → ∀ x, a = some x → x.block < w.heap.size := by
  intro hm x e
  rcases h.2 with h0 | ⟨bb, o, rfl, hb, _⟩
  · omega
  · injection e with e
    subst e
    exact hb
theorem load_bytes64 (b o : Nat) (q : Nat → BitVec 8) (w : World) (h : ∀ i, i < 64 → w.cell? ⟨b, o + i, none⟩ = some (.int .u8 (n8 (q i)))) : (Instr.loadAt 48 (.pointer (some ⟨b, o, none⟩))).run Tryd.prog w = .ok (.agg (bytesA q 64)) w := by
  have := run_loadAt_mid (P := Tryd.prog) w b o 48 (bytesA q 64).toList _ (fun j x hx => by
    rw [Array.getElem?_toList] at hx
    have hj : j < 64 := by have := (Array.getElem?_eq_some_iff.1 hx).1; rwa [bytesA_size] at this
    rw [bytesA_get _ hj] at hx
    rw [h j hj]; exact hx) Tryd.underlying48 rfl (by rw [Array.length_toList, bytesA_size]; kernel_rfl)
  rwa [Array.toArray_toList] at this
theorem bytesIn_chg {w w' : World} {b : Nat} {a : Option Addr} {m : Nat} {p : Nat → BitVec 8} (h : BytesIn w a m p) (hc : Chg b w w') (ha : 0 < m → ∀ x, a = some x → x.block ≠ b) : BytesIn w' a m p := by
  refine ⟨h.1, ?_⟩
  by_cases h0 : m = 0
  · exact .inl h0
  rcases h.2 with h1 | ⟨bb, o, rfl, hb, hc2⟩
  · exact absurd h1 h0
  · exact .inr ⟨bb, o, rfl, Nat.lt_of_lt_of_le hb hc.size, fun i hi => by rw [hc.cell (p := ⟨bb, o + i, none⟩) hb (ha (by omega) ⟨bb, o, none⟩ rfl)]; exact hc2 i hi⟩
theorem bytesIn_ext {w w' : World} {a : Option Addr} {m : Nat} {p : Nat → BitVec 8} (h : BytesIn w a m p) (hb : Below w.heap.size w w') : BytesIn w' a m p := by
  refine ⟨h.1, ?_⟩
  rcases h.2 with h0 | ⟨bb, o, rfl, hbb, hc2⟩
  · exact .inl h0
  · exact .inr ⟨bb, o, rfl, Nat.lt_of_lt_of_le hbb hb.size, fun i hi => by rw [hb.cell (p := ⟨bb, o + i, none⟩) hbb]; exact hc2 i hi⟩
set_option maxHeartbeats 8000000 in
set_option maxRecDepth 100000 in
theorem write_any (b n m c : Nat) (f p : Nat → BitVec 8) (a : Option Addr) (w : World) (T : TabK w) (hbg : 0 < b) (H : HashSt w b f n) (hx : BytesIn w a m p) (hc : m ≤ c) (hcm : c ≤ maxLen)
    (hap : 0 < m → ∀ x, a = some x → x.block ≠ b) (hsz : n + m < 1152921504606846976) :
    Calls Tryd.prog 24 #[.pointer (some ⟨b, 0, none⟩), .slice a m c] w fun e w' => e = .returned (.tuple #[]) ∧ HashSt w' b (joinb f n p) (n + m) ∧ Chg b w w' := by
  obtain ⟨v, g, hrow, hv, hg⟩ := H
  have HX := Lib.hid hx
  have HAP := Lib.hid hap
  have HV := Lib.hid hv
  have HG := Lib.hid hg
  have TK := Lib.hid T
  have HR := Lib.hid hrow
  clear hx hap hv hg T
  go_enter Tryd.func24, Tryd.ntmps24
  have cl := HR.out.len
  go_upto_if 12 with fail
  go_cut [] (fun wx => ∃ v1, v1 = W8.blocks kW startW f (n / 64) ∧ HashRow wx b v1 g n ∧ Chg b w wx)
  case first =>
    by_cases hn0 : n = 0
    · subst hn0
      go_wp2_with fail
      with_reducible refine (start_any _).mono ?_
      rintro e w1 ⟨rfl, hb1⟩
      have R1 := HR.out.later hb1
      have TH := R1.there (o := 0) (k := 8) (by omega)
      go_wp2_with (refine wpList_store_mid rfl 57 _ _ rfl b 0 (wordsA startW.get 8) rfl rfl (by rw [wordsA_size]; exact TH) (by rw [wordsA_size]; kernel_rfl) (wordsA_one _ _) ?_)
      go_meet
      have hs := R1.setState startW
      exact ⟨startW, rfl, hs.row, (Chg.of_below hb1).trans hs.chg⟩
    · have hnI : ¬ (n : Int) = 0 := by omega
      go_wp2_with fail
      go_meet
      exact ⟨v, HV.out hn0, HR.out, Chg.refl _ _⟩
  case rest =>
    obtain ⟨v1, hv1, row1, chg1⟩ := hcut
    have V1 := Lib.hid hv1
    have R1 := Lib.hid row1
    have C1 := Lib.hid chg1
    clear hv1 row1 chg1 cl HV HR hrow v
    have cl := R1.out.len
    have fz := R1.out.free 72
    go_upto_if 34 with fail
    obtain ⟨h, hh⟩ : ∃ h : Nat, n % 64 = h := ⟨_, rfl⟩
    have hI : (n : Int) % 64 = (h : Int) := by omega
    have h64 : h < 64 := by omega
    have S2 := R1.out.setLen (n + m)
    rw [Int.natCast_add] at S2
    simp only [hI]
    obtain ⟨w2, hw2⟩ : ∃ w2, wc.setCell ⟨b, 72, none⟩ (.int .u64 ((n : Int) + (m : Int))) = w2 := ⟨_, rfl⟩
    rw [hw2] at S2
    simp only [hw2]
    have R2 := Lib.hid S2.row
    have C2 := Lib.hid (C1.out.trans S2.chg)
    have HH := Lib.hid hh
    have V2 := Lib.hid (show v1 = W8.blocks kW startW (joinb f n p) (n / 64) by rw [V1.out]; exact W8.blocks_congr _ (fun i hi => by unfold joinb; rw [if_pos (by omega)]))
    clear hw2 S2 cl fz R1 C1 V1 hI
    go_cut [1] (fun x1 wx => ∃ (j : Nat) (a' : Option Addr) (v2 : W8) (g2 : Nat → BitVec 8), x1 = .slice a' (m - j) (c - j) ∧ j ≤ m ∧ (n + j) % 64 = 0 ∧ v2 = W8.blocks kW startW (joinb f n p) ((n + j) / 64) ∧ HashRow wx b v2 g2 (n + m) ∧ BytesIn wx a' (m - j) (fun i => p (j + i)) ∧ (0 < m - j → ∀ x, a' = some x → x.block ≠ b) ∧ Chg b w wx)
    case first =>
      have HX2 := Lib.hid (bytesIn_chg HX.out C2.out HAP.out)
      by_cases h0 : h = 0
      · subst h0
        go_wp2_with fail
        go_meet
        have := HH.out
        exact ⟨0, a, v1, g, rfl, Nat.zero_le _, by omega, V2.out, R2.out, by rw [show (fun i => p (0 + i)) = p by funext i; rw [Nat.zero_add]]; exact HX2.out, HAP.out, C2.out⟩
      · have hpos : 0 < (h : Int) := by omega
        obtain ⟨k, hk⟩ : ∃ k, k = Nat.min m (64 - h) := ⟨_, rfl⟩
        have hk3 : h + k ≤ 64 := by
          have : k ≤ 64 - h := by rw [hk]; exact Nat.min_le_right _ _
          omega
        obtain ⟨w3, hcp, S3⟩ := copy_block R2.out h (64 - h) (64 - h) a m c k p hk hk3 HX2.out
        have hsl := fun w' => run_arr64 w' b 8 h h64
        have hk1 : k ≤ m := by rw [hk]; exact Nat.min_le_left _ _
        obtain ⟨a2, hfr, ha2, ha3⟩ := run_from a k m c hk1
        have hk2 : k = m ∨ k = 64 - h := by rw [hk]; show min m (64 - h) = m ∨ min m (64 - h) = _; omega
        have HA2 := Lib.hid ha2
        have HA3 := Lib.hid ha3
        have HK2 := Lib.hid hk2
        have R3 := Lib.hid S3.row
        have C3 := Lib.hid (C2.out.trans S3.chg)
        clear ha2 ha3 hk2 hk S3 R2 C2
        by_cases hfull : h + k < 64
        · have hfI : (h : Int) + (k : Int) < 64 := by omega
          go_wp2_with fail
          refine bodyPost_ret (results_none rfl _ _ _) rfl ?_
          refine ⟨rfl, ⟨v1, _, R3.out, fun _ => ?_, fun i hi => ?_⟩, C3.out⟩
          · have := HH.out; have := HK2.out
            rw [V2.out, show (n + m) / 64 = n / 64 by omega]
          · have hh := HH.out; have := HK2.out
            have e1 : (n + m) / 64 = n / 64 := by omega
            have hg := HG.out
            unfold over8 joinb
            rw [e1]
            by_cases c1 : i < h
            · rw [if_neg (by omega), if_pos (by omega), hg i (by omega)]
            · rw [if_pos (by omega), if_neg (by omega)]
              congr 1
              omega
        · have hfI : ¬ (h : Int) + (k : Int) < 64 := by omega
          have hke : h + k = 64 := by omega
          go_upto_region 9 with fail
          have TKx := Lib.hid (TK.out.chg C3.out hbg)
          refine region_class1 12 (fun w' => Below w3.heap.size w3 w') mixedOrders (by kernel_rfl) (Below.refl _ _).drew rfl ?_
          refine wpQuiet_take (by rfl) (fun K hK => ⟨.pointer (some ⟨b, 0, none⟩), fun w2' hw2 => ?_, hK _ ?_⟩)
          · clear hw2; go_simp
          clear hK K
          simp only [Act.put, List.setIfInBounds_toArray, List.set_cons_succ, List.set_cons_zero]
          refine wpQuiet_take (by rfl) (fun K hK => ⟨.pointer (some ⟨b, 0, none⟩), fun w2' hw2 => ?_, hK _ ?_⟩)
          · clear hw2; go_simp
          clear hK K
          simp only [Act.put, List.setIfInBounds_toArray, List.set_cons_succ, List.set_cons_zero]
          refine wpQuiet_take (by rfl) (fun K hK => ⟨.pointer (some ⟨b, 0, none⟩), fun w2' hw2 => ?_, hK _ ?_⟩)
          · clear hw2; go_simp
          clear hK K
          simp only [Act.put, List.setIfInBounds_toArray, List.set_cons_succ, List.set_cons_zero]
          refine wpQuiet_take (by rfl) (fun K hK => ⟨.pointer (some ⟨b, 0, none⟩), fun w2' hw2 => ?_, hK _ ?_⟩)
          · clear hw2; go_simp
          clear hK K
          simp only [Act.put, List.setIfInBounds_toArray, List.set_cons_succ, List.set_cons_zero]
          refine wpQuiet_take (by rfl) (fun K hK => ⟨.agg (wordsA (v1).get 8), fun w2' hw2 => ?_, hK _ ?_⟩)
          · exact quietAt_run (quiet_load (load_state (R3.out.later hw2)))
          clear hK K
          simp only [Act.put, List.setIfInBounds_toArray, List.set_cons_succ, List.set_cons_zero]
          refine wpQuiet_take (by rfl) (fun K hK => ⟨.pointer (some ⟨b, 0, none⟩), fun w2' hw2 => ?_, hK _ ?_⟩)
          · clear hw2; go_simp
          clear hK K
          simp only [Act.put, List.setIfInBounds_toArray, List.set_cons_succ, List.set_cons_zero]
          refine wpQuiet_take (by rfl) (fun K hK => ⟨.pointer (some ⟨b, 0, none⟩), fun w2' hw2 => ?_, hK _ ?_⟩)
          · clear hw2; go_simp
          clear hK K
          simp only [Act.put, List.setIfInBounds_toArray, List.set_cons_succ, List.set_cons_zero]
          refine wpQuiet_take (by rfl) (fun K hK => ⟨.pointer (some ⟨b, 8, none⟩), fun w2' hw2 => ?_, hK _ ?_⟩)
          · clear hw2; go_simp
          clear hK K
          simp only [Act.put, List.setIfInBounds_toArray, List.set_cons_succ, List.set_cons_zero]
          refine wpQuiet_take (by rfl) (fun K hK => ⟨.agg (bytesA (over8 g h k p) 64), fun w2' hw2 => ?_, hK _ ?_⟩)
          · exact quietAt_run (quiet_load (load_block (R3.out.later hw2)))
          clear hK K
          simp only [Act.put, List.setIfInBounds_toArray, List.set_cons_succ, List.set_cons_zero]
          refine wpQuiet_take (by rfl) (fun K hK => ⟨.agg (wordsA ((v1).turn kW (over8 g h k p)).get 8), fun w2' hw2 => ?_, hK _ ?_⟩)
          · go_simp
            go_at_call 32
            with_reducible refine (turn_any (v1) (over8 g h k p) w2' (TKx.out.later hw2)).mono ?_
            rintro e w4 ⟨rfl, hb4⟩
            exact ⟨rfl, hw2.trans (hb4.mono hw2.size)⟩
          clear hK K
          simp only [Act.put, List.setIfInBounds_toArray, List.set_cons_succ, List.set_cons_zero]
          refine wpQuiet_take (by rfl) (fun K hK => ⟨.pointer (some ⟨b, 0, none⟩), fun w2' hw2 => ?_, hK _ ?_⟩)
          · clear hw2; go_simp
          clear hK K
          simp only [Act.put, List.setIfInBounds_toArray, List.set_cons_succ, List.set_cons_zero]
          refine wpQuiet_take (by rfl) (fun K hK => ⟨.pointer (some ⟨b, 0, none⟩), fun w2' hw2 => ?_, hK _ ?_⟩)
          · clear hw2; go_simp
          clear hK K
          simp only [Act.put, List.setIfInBounds_toArray, List.set_cons_succ, List.set_cons_zero]
          refine wpQuiet_take0 ?_
          intro w4 hb4
          have R4 := Lib.hid (R3.out.later hb4)
          have C4 := Lib.hid (C3.out.trans (Chg.of_below hb4))
          have TH := R4.out.there (o := 0) (k := 8) (by omega)
          have TH2 := Lib.hid TH
          clear hb4 TH
          go_wp2_with (refine wpList_store_mid rfl 57 _ _ rfl b 0 (wordsA (v1.turn kW (over8 g h k p)).get 8) rfl rfl (by rw [wordsA_size]; exact TH2.out) (by rw [wordsA_size]; kernel_rfl) (wordsA_one _ _) ?_)
          have hs := R4.out.setState (v1.turn kW (over8 g h k p))
          go_meet
          have hh := HH.out
          refine ⟨k, a2, _, _, rfl, hk1, by omega, ?_, hs.row, bytesIn_chg (bytesIn_from HX.out hk1 hc HA2.out) (C4.out.trans hs.chg) ?_, ?_, C4.out.trans hs.chg⟩
          · rw [show (n + k) / 64 = n / 64 + 1 by omega]
            show _ = (W8.blocks kW startW (joinb f n p) (n / 64)).turn kW _
            rw [V2.out]
            refine W8.turn_congr (fun i hi => ?_)
            have hg := HG.out
            unfold over8 joinb
            by_cases c1 : i < h
            · rw [if_neg (by omega), if_pos (by omega), hg i (by omega)]
            · rw [if_pos (by omega), if_neg (by omega)]
              congr 1
              omega
          · exact apart_from HAP.out HA2.out HA3.out
          · exact apart_from HAP.out HA2.out HA3.out
    case rest =>
      obtain ⟨j, a', v2, g2, rfl, hj, hj64, hv2, row2, bin2, ap2, chg2⟩ := hcut
      have V0 := Lib.hid hv2
      have R0 := Lib.hid row2
      have B0 := Lib.hid bin2
      have A0 := Lib.hid ap2
      have C0 := Lib.hid chg2
      clear hv2 row2 bin2 ap2 chg2 V2 R2 C2 HX HAP HG HH
      go_wp2_with fail
      go_loopw [1] (fun s wr => ∃ (j : Nat) (a' : Option Addr) (v2 : W8) (g2 : Nat → BitVec 8), s = .slice a' (m - j) (c - j) ∧ j ≤ m ∧ (n + j) % 64 = 0 ∧ v2 = W8.blocks kW startW (joinb f n p) ((n + j) / 64) ∧ HashRow wr b v2 g2 (n + m) ∧ BytesIn wr a' (m - j) (fun i => p (j + i)) ∧ (0 < m - j → ∀ x, a' = some x → x.block ≠ b) ∧ Chg b w wr)
        (fun s _ => (match s with | .slice _ l _ => l | _ => 0))
      case atStart => exact ⟨j, a', v2, g2, rfl, hj, hj64, V0.out, R0.out, B0.out, A0.out, C0.out⟩
      case round =>
        clear V0 R0 B0 A0 C0 hj hj64
        obtain ⟨j, a', v2, g2, rfl, hj, hj64, hv2, row2, bin2, ap2, chg2⟩ := hrel
        have V0 := Lib.hid hv2
        have R0 := Lib.hid row2
        have B0 := Lib.hid bin2
        have A0 := Lib.hid ap2
        have C0 := Lib.hid chg2
        clear hv2 row2 bin2 ap2 chg2
        by_cases hl : 64 ≤ m - j
        · have hlI : (64 : Int) ≤ ((m - j : Nat) : Int) := by omega
          obtain ⟨bb, bo, rfl, hbb, hcc⟩ : ∃ bb bo, a' = some ⟨bb, bo, none⟩ ∧ bb < wr.heap.size ∧ ∀ i, i < m - j → wr.cell? ⟨bb, bo + i, none⟩ = some (.int .u8 (n8 (p (j + i)))) := by
            rcases B0.out.2 with h0 | h1
            · omega
            · exact h1
          have HBB := Lib.hid hbb
          have HCC := Lib.hid hcc
          have har : ∀ w', (Instr.arrayAt 48 (.slice (some ⟨bb, bo, none⟩) (m - j) (c - j))).run Tryd.prog w' = .ok (.pointer (some ⟨bb, bo, none⟩)) w' := fun w' => run_arrayAt w' 48 5 64 _ (m - j) (c - j) (by kernel_rfl) hl
          obtain ⟨a3, hfr0, ha2, ha3⟩ := run_from (some ⟨bb, bo, none⟩) 64 (m - j) (c - j) hl
          have hfr : ∀ w' : World, (Instr.sliceAt 40 (.slice (some ⟨bb, bo, none⟩) (m - j) (c - j)) (some (.int .i64 64)) none none).run Tryd.prog w' = .ok (.slice a3 (m - j - 64) (c - j - 64)) w' := hfr0
          clear hfr0
          have HA2 := Lib.hid ha2
          have HA3 := Lib.hid ha3
          clear hbb hcc ha2 ha3
          go_upto_region 11 with fail
          have TKx := Lib.hid (TK.out.chg C0.out hbg)
          refine region_class1 11 (fun w' => Below wr.heap.size wr w') mixedOrders (by kernel_rfl) (Below.refl _ _).drew rfl ?_
          refine wpQuiet_take (by rfl) (fun K hK => ⟨.pointer (some ⟨b, 0, none⟩), fun w2' hw2 => ?_, hK _ ?_⟩)
          · clear hw2; go_simp
          clear hK K
          simp only [Act.put, List.setIfInBounds_toArray, List.set_cons_succ, List.set_cons_zero]
          refine wpQuiet_take (by rfl) (fun K hK => ⟨.pointer (some ⟨b, 0, none⟩), fun w2' hw2 => ?_, hK _ ?_⟩)
          · clear hw2; go_simp
          clear hK K
          simp only [Act.put, List.setIfInBounds_toArray, List.set_cons_succ, List.set_cons_zero]
          refine wpQuiet_take (by rfl) (fun K hK => ⟨.pointer (some ⟨b, 0, none⟩), fun w2' hw2 => ?_, hK _ ?_⟩)
          · clear hw2; go_simp
          clear hK K
          simp only [Act.put, List.setIfInBounds_toArray, List.set_cons_succ, List.set_cons_zero]
          refine wpQuiet_take (by rfl) (fun K hK => ⟨.pointer (some ⟨b, 0, none⟩), fun w2' hw2 => ?_, hK _ ?_⟩)
          · clear hw2; go_simp
          clear hK K
          simp only [Act.put, List.setIfInBounds_toArray, List.set_cons_succ, List.set_cons_zero]
          refine wpQuiet_take (by rfl) (fun K hK => ⟨.agg (wordsA (v2).get 8), fun w2' hw2 => ?_, hK _ ?_⟩)
          · exact quietAt_run (quiet_load (load_state (R0.out.later hw2)))
          clear hK K
          simp only [Act.put, List.setIfInBounds_toArray, List.set_cons_succ, List.set_cons_zero]
          refine wpQuiet_take (by rfl) (fun K hK => ⟨.slice (some ⟨bb, bo, none⟩) (m - j) (c - j), fun w2' hw2 => ?_, hK _ ?_⟩)
          · clear hw2; go_simp
          clear hK K
          simp only [Act.put, List.setIfInBounds_toArray, List.set_cons_succ, List.set_cons_zero]
          refine wpQuiet_take (by rfl) (fun K hK => ⟨.pointer (some ⟨bb, bo, none⟩), fun w2' hw2 => ?_, hK _ ?_⟩)
          · clear hw2; go_simp
          clear hK K
          simp only [Act.put, List.setIfInBounds_toArray, List.set_cons_succ, List.set_cons_zero]
          refine wpQuiet_take (by rfl) (fun K hK => ⟨.agg (bytesA (fun i => p (j + i)) 64), fun w2' hw2 => ?_, hK _ ?_⟩)
          · exact quietAt_run (quiet_load (load_bytes64 _ _ _ _ (fun i hi => by rw [hw2.cell (p := ⟨bb, bo + i, none⟩) HBB.out]; exact HCC.out i (by omega))))
          clear hK K
          simp only [Act.put, List.setIfInBounds_toArray, List.set_cons_succ, List.set_cons_zero]
          refine wpQuiet_take (by rfl) (fun K hK => ⟨.agg (wordsA ((v2).turn kW (fun i => p (j + i))).get 8), fun w2' hw2 => ?_, hK _ ?_⟩)
          · go_simp
            go_at_call 32
            with_reducible refine (turn_any (v2) (fun i => p (j + i)) w2' (TKx.out.later hw2)).mono ?_
            rintro e w4 ⟨rfl, hb4⟩
            exact ⟨rfl, hw2.trans (hb4.mono hw2.size)⟩
          clear hK K
          simp only [Act.put, List.setIfInBounds_toArray, List.set_cons_succ, List.set_cons_zero]
          refine wpQuiet_take (by rfl) (fun K hK => ⟨.pointer (some ⟨b, 0, none⟩), fun w2' hw2 => ?_, hK _ ?_⟩)
          · clear hw2; go_simp
          clear hK K
          simp only [Act.put, List.setIfInBounds_toArray, List.set_cons_succ, List.set_cons_zero]
          refine wpQuiet_take (by rfl) (fun K hK => ⟨.pointer (some ⟨b, 0, none⟩), fun w2' hw2 => ?_, hK _ ?_⟩)
          · clear hw2; go_simp
          clear hK K
          simp only [Act.put, List.setIfInBounds_toArray, List.set_cons_succ, List.set_cons_zero]
          refine wpQuiet_take0 ?_
          intro w4 hb4
          have R4 := Lib.hid (R0.out.later hb4)
          have C4 := Lib.hid (C0.out.trans (Chg.of_below hb4))
          have TH2 := Lib.hid (R4.out.there (o := 0) (k := 8) (by omega))
          have B4 := Lib.hid (bytesIn_ext B0.out hb4)
          clear hb4
          go_upto_region 12 with (refine wpList_store_mid rfl 57 _ _ rfl b 0 (wordsA (v2.turn kW (fun i => p (j + i))).get 8) rfl rfl (by rw [wordsA_size]; exact TH2.out) (by rw [wordsA_size]; kernel_rfl) (wordsA_one _ _) ?_)
          have hs := Lib.hid (R4.out.setState (v2.turn kW (fun i => p (j + i))))
          go_wp2_with fail
          go_roundw
          case rel =>
            refine ⟨j + 64, a3, _, g2, by rw [Nat.sub_add_eq, Nat.sub_add_eq], by omega, by omega, ?_, hs.out.row, ?_, by rw [Nat.sub_add_eq]; exact apart_from A0.out HA2.out HA3.out, C4.out.trans hs.out.chg⟩
            · rw [show (n + (j + 64)) / 64 = (n + j) / 64 + 1 by omega]
              show _ = (W8.blocks kW startW (joinb f n p) ((n + j) / 64)).turn kW _
              rw [V0.out]
              refine W8.turn_congr (fun i hi => ?_)
              unfold joinb
              rw [if_neg (by omega)]
              congr 1
              omega
            · have := bytesIn_from (bytesIn_chg B4.out hs.out.chg A0.out) hl (by omega) HA2.out
              rw [Nat.sub_add_eq, show (fun i => p (j + 64 + i)) = (fun i => p (j + (64 + i))) by funext i; rw [Nat.add_assoc]]
              exact this
          case measure => (simp <;> omega)
        · have hlI : ¬ (64 : Int) ≤ ((m - j : Nat) : Int) := by omega
          have hall := fun w' => run_arr64_all w' b 8
          obtain ⟨w3, hcp, S3⟩ := copy_block R0.out 0 64 64 a' (m - j) (c - j) (m - j) (fun i => p (j + i)) (Nat.min_eq_left (by omega)).symm (by omega) B0.out
          have hcp' : (Builtin.copy_ #[40, 40] 3 #[.slice (some ⟨b, 8, none⟩) 64 64, .slice a' (m - j) (c - j)]).run Tryd.prog wr = .ok (goInt ((m - j : Nat) : Int)) w3 := hcp
          have S := Lib.hid S3
          clear hcp S3
          go_wp2_with fail
          go_end0
          refine ⟨rfl, ⟨v2, _, S.out.row, fun _ => ?_, fun i hi => ?_⟩, C0.out.trans S.out.chg⟩
          · rw [V0.out, show (n + m) / 64 = (n + j) / 64 by omega]
          · unfold over8 joinb
            rw [if_pos (by omega), if_neg (by omega)]
            show p (j + (i - 0)) = p _
            congr 1
            omega
end Go.Proofs.YtebhhonmpoeliaaDoor
