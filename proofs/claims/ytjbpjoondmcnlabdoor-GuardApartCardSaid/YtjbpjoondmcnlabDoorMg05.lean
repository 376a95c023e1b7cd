/-
  TEXTS PUT TOGETHER: ShaF, ShaG.
-/
import Derived.Test.YtjbpjoondmcnlabDoorMg04
set_option maxRecDepth 100000
/-
  sha: Write: what a hash holds behind some bytes more.
-/
namespace Go.Proofs.YtjbpjoondmcnlabDoor
open Go Go.RowKit Go.BigFrame
set_option linter.unusedSimpArgs false
set_option linter.unusedVariables false
theorem quiet_load {P : Program} {x : Sem Value} {v : Value} {w : World} (h : x.run P w = .ok v w) : (x >>= fun v => pure (Next.value v)).run P w = .ok (.value v) w := by
  rw [Sem.run_bind, h]
  rfl
theorem quietAt_run {P : Program} {o : Oper} {a : Act} {C : World → Prop} {w : World} {v : Value} (h : (execOp a.eval o).run P w = .ok (.value v) w) : o.quietAt P a C w v := by
  unfold Oper.quietAt
  rw [h]
  exact ⟨rfl, rfl⟩
/-- The hash in block b has taken the first n bytes of f. -/
def HashSt (w : World) (b : Nat) (f : Nat → BitVec 8) (n : Nat) : Prop :=
  ∃ v g, HashRow w b v g n ∧ (n ≠ 0 → v = W8.blocks kW startW f (n / 64)) ∧ ∀ i, i < n % 64 → g i = f (64 * (n / 64) + i)
theorem HashSt.later {w w' : World} {b : Nat} {f : Nat → BitVec 8} {n : Nat} (h : HashSt w b f n) (hb : Below w.heap.size w w') : HashSt w' b f n := by
  obtain ⟨v, g, h1, h2, h3⟩ := h
  exact ⟨v, g, h1.later hb, h2, h3⟩
theorem HashSt.lt {w : World} {b : Nat} {f : Nat → BitVec 8} {n : Nat} (h : HashSt w b f n) : b < w.heap.size := by
  obtain ⟨v, g, h1, h2, h3⟩ := h
  exact lt_row h1
theorem HashSt.chg {w w' : World} {b b' : Nat} {f : Nat → BitVec 8} {n : Nat} (h : HashSt w b f n) (hc : Chg b' w w') (hb : b ≠ b') : HashSt w' b f n := by
  obtain ⟨v, g, h1, h2, h3⟩ := h
  exact ⟨v, g, hc.row hb h1, h2, h3⟩
theorem HashSt.congr {w : World} {b : Nat} {f f' : Nat → BitVec 8} {n : Nat} (h : HashSt w b f n) (e : ∀ i, i < n → f i = f' i) : HashSt w b f' n := by
  obtain ⟨v, g, h1, h2, h3⟩ := h
  refine ⟨v, g, h1, fun h0 => ?_, fun i hi => ?_⟩
  · rw [h2 h0]; exact W8.blocks_congr _ (fun i hi => e i (by omega))
  · rw [h3 i hi]; exact e _ (by omega)
theorem run_from (a : Option Addr) (k m c : Nat) (hk : k ≤ m) : ∃ a', (∀ w : World, (Instr.sliceAt 31 (.slice a m c) (some (.int .i64 (k : Int))) none none).run Tryd.prog w = .ok (.slice a' (m - k) (c - k)) w) ∧ (c ≠ k → a' = a.map (·.add k)) ∧ (c = k → a' = a) := by
  refine ⟨if c = k then a else a.map (·.add k), fun w => ?_, fun h => by rw [if_neg h], fun h => by rw [if_pos h]⟩
  have hu : Tryd.prog.underlying 31 = some (.slice (Tryd.prog.elem 31)) := by kernel_rfl
  rw [run_sliceAt_slice (t := 31) (h := hu), run_slice_any (t := 31) (ht := hu)]
  have h0 : (0 : Int) ≤ (k : Int) := by omega
  have h1 : (k : Int) ≤ (m : Int) := by omega
  simp [Instr.sliceBounds, go_sem, h0, h1]
theorem run_arr64 (w : World) (b o h : Nat) (hh : h < 64) : (Instr.sliceAt 132 (.pointer (some ⟨b, o, none⟩)) (some (.int .i64 (h : Int))) none none).run Tryd.prog w = .ok (.slice (some ⟨b, o + h, none⟩) (64 - h) (64 - h)) w := by
  have h0 : (0 : Int) ≤ (h : Int) := by omega
  have h1 : (h : Int) ≤ 64 := by omega
  have hne : ¬ 64 = h := by omega
  have e : ((⟨b, o, none⟩ : Addr).add h) = ⟨b, o + h, none⟩ := Addr.add_mid _ _ _
  simp [go_sem, h0, h1, hne, e, slicedAt]
set_option maxRecDepth 100000 in
theorem run_arr64_all (w : World) (b o : Nat) : (Instr.sliceAt 132 (.pointer (some ⟨b, o, none⟩)) none none none).run Tryd.prog w = .ok (.slice (some ⟨b, o, none⟩) 64 64) w := by
  first
  | (with_unfolding_all rfl)
  | simp [go_sem]
/-- What stands behind the first k bytes. -/
theorem bytesIn_from {w : World} {a a' : Option Addr} {k m c : Nat} {p : Nat → BitVec 8} (h : BytesIn w a m p) (hk : k ≤ m) (hm : m ≤ c) (ha : c ≠ k → a' = a.map (·.add k)) : BytesIn w a' (m - k) (fun i => p (k + i)) := by
  refine ⟨by have := h.1; omega, ?_⟩
  by_cases hkm : k = m
  · exact .inl (by omega)
  · rcases h.2 with h0 | ⟨b, o, rfl, hb, hc⟩
    · exact .inl (by omega)
    · refine .inr ⟨b, o + k, ?_, hb, fun i hi => ?_⟩
      · rw [ha (by omega)]
        show some ((⟨b, o, none⟩ : Addr).add k) = _
        rw [Addr.add_mid]
      · rw [Nat.add_assoc]; exact hc (k + i) (by omega)
theorem apart_from {a a' : Option Addr} {k m c b : Nat} (h : 0 < m → ∀ x, a = some x → x.block ≠ b) (h1 : c ≠ k → a' = a.map (·.add k)) (h2 : c = k → a' = a) : 0 < m - k → ∀ x, a' = some x → x.block ≠ b := by
  intro hm x e
  have h := h (by omega)
  by_cases hc : c = k
  · exact h x ((h2 hc).symm.trans e)
  · rw [h1 hc] at e
    cases a with
    | none => cases e
    | some y =>
      have e2 : some (y.add k) = some x := e
      injection e2 with e2
      have e3 : (y.add k).block = y.block := by unfold Addr.add; split <;> rfl
      rw [← e2, e3]
      exact h y rfl
theorem bytesIn_lt {w : World} {a : Option Addr} {m : Nat} {p : Nat → BitVec 8} (h : BytesIn w a m p) : 0 < m → ∀ x, a = some x → x.block < w.heap.size := by
  intro hm x e
  rcases h.2 with h0 | ⟨bb, o, rfl, hb, _⟩
  · omega
  · injection e with e
    subst e
    exact hb
theorem load_bytes64 (b o : Nat) (q : Nat → BitVec 8) (w : World) (h : ∀ i, i < 64 → w.cell? ⟨b, o + i, none⟩ = some (.int .u8 (n8 (q i)))) : (Instr.loadAt 132 (.pointer (some ⟨b, o, none⟩))).run Tryd.prog w = .ok (.agg (bytesA q 64)) w := by
  have := run_loadAt_mid (P := Tryd.prog) w b o 132 (bytesA q 64).toList _ (fun j x hx => by
    rw [Array.getElem?_toList] at hx
    have hj : j < 64 := by have := (Array.getElem?_eq_some_iff.1 hx).1; rwa [bytesA_size] at this
    rw [bytesA_get _ hj] at hx
    rw [h j hj]; exact hx) Tryd.underlying132 rfl (by rw [Array.length_toList, bytesA_size]; kernel_rfl)
  rwa [Array.toArray_toList] at this
theorem bytesIn_chg {w w' : World} {b : Nat} {a : Option Addr} {m : Nat} {p : Nat → BitVec 8} (h : BytesIn w a m p) (hc : Chg b w w') (ha : 0 < m → ∀ x, a = some x → x.block ≠ b) : BytesIn w' a m p := by
  refine ⟨h.1, ?_⟩
  by_cases h0 : m = 0
  · exact .inl h0
  rcases h.2 with h1 | ⟨bb, o, rfl, hb, hc2⟩
  · exact absurd h1 h0
  · exact .inr ⟨bb, o, rfl, Nat.lt_of_lt_of_le hb hc.size, fun i hi => by rw [hc.cell (p := ⟨bb, o + i, none⟩) hb (ha (by omega) ⟨bb, o, none⟩ rfl)]; exact hc2 i hi⟩
theorem bytesIn_ext {w w' : World} {a : Option Addr} {m : Nat} {p : Nat → BitVec 8} (h : BytesIn w a m p) (hb : Below w.heap.size w w') : BytesIn w' a m p := by
  refine ⟨h.1, ?_⟩
  rcases h.2 with h0 | ⟨bb, o, rfl, hbb, hc2⟩
  · exact .inl h0
  · exact .inr ⟨bb, o, rfl, Nat.lt_of_lt_of_le hbb hb.size, fun i hi => by rw [hb.cell (p := ⟨bb, o + i, none⟩) hbb]; exact hc2 i hi⟩
set_option maxHeartbeats 8000000 in
set_option maxRecDepth 100000 in
theorem write_any (b n m c : Nat) (f p : Nat → BitVec 8) (a : Option Addr) (w : World) (T : TabK w) (hbg : 0 < b) (H : HashSt w b f n) (hx : BytesIn w a m p) (hc : m ≤ c) (hcm : c ≤ maxLen)
    (hap : 0 < m → ∀ x, a = some x → x.block ≠ b) (hsz : n + m < 1152921504606846976) :
    Calls Tryd.prog 81 #[.pointer (some ⟨b, 0, none⟩), .slice a m c] w fun e w' => e = .returned (.tuple #[]) ∧ HashSt w' b (joinb f n p) (n + m) ∧ Chg b w w' := by
  obtain ⟨v, g, hrow, hv, hg⟩ := H
  have HX := Lib.hid hx
  have HAP := Lib.hid hap
  have HV := Lib.hid hv
  have HG := Lib.hid hg
  have TK := Lib.hid T
  have HR := Lib.hid hrow
  clear hx hap hv hg T
  go_enter Tryd.func81, Tryd.ntmps81
  have cl := HR.out.len
  go_upto_if 12 with fail
  go_cut [] (fun wx => ∃ v1, v1 = W8.blocks kW startW f (n / 64) ∧ HashRow wx b v1 g n ∧ Chg b w wx)
  case first =>
    by_cases hn0 : n = 0
    · subst hn0
      go_wp2_with fail
      with_reducible refine (start_any _).mono ?_
      rintro e w1 ⟨rfl, hb1⟩
      have R1 := HR.out.later hb1
      have TH := R1.there (o := 0) (k := 8) (by omega)
      go_wp2_with (refine wpList_store_mid rfl 143 _ _ rfl b 0 (wordsA startW.get 8) rfl rfl (by rw [wordsA_size]; exact TH) (by rw [wordsA_size]; kernel_rfl) (wordsA_one _ _) ?_)
      go_meet
      have hs := R1.setState startW
      exact ⟨startW, rfl, hs.row, (Chg.of_below hb1).trans hs.chg⟩
    · have hnI : ¬ (n : Int) = 0 := by omega
      go_wp2_with fail
      go_meet
      exact ⟨v, HV.out hn0, HR.out, Chg.refl _ _⟩
  case rest =>
    obtain ⟨v1, hv1, row1, chg1⟩ := hcut
    have V1 := Lib.hid hv1
    have R1 := Lib.hid row1
    have C1 := Lib.hid chg1
    clear hv1 row1 chg1 cl HV HR hrow v
    have cl := R1.out.len
    have fz := R1.out.free 72
    go_upto_if 34 with fail
    obtain ⟨h, hh⟩ : ∃ h : Nat, n % 64 = h := ⟨_, rfl⟩
    have hI : (n : Int) % 64 = (h : Int) := by omega
    have h64 : h < 64 := by omega
    have S2 := R1.out.setLen (n + m)
    rw [Int.natCast_add] at S2
    simp only [hI]
    obtain ⟨w2, hw2⟩ : ∃ w2, wc.setCell ⟨b, 72, none⟩ (.int .u64 ((n : Int) + (m : Int))) = w2 := ⟨_, rfl⟩
    rw [hw2] at S2
    simp only [hw2]
    have R2 := Lib.hid S2.row
    have C2 := Lib.hid (C1.out.trans S2.chg)
    have HH := Lib.hid hh
    have V2 := Lib.hid (show v1 = W8.blocks kW startW (joinb f n p) (n / 64) by rw [V1.out]; exact W8.blocks_congr _ (fun i hi => by unfold joinb; rw [if_pos (by omega)]))
    clear hw2 S2 cl fz R1 C1 V1 hI
    go_cut [1] (fun x1 wx => ∃ (j : Nat) (a' : Option Addr) (v2 : W8) (g2 : Nat → BitVec 8), x1 = .slice a' (m - j) (c - j) ∧ j ≤ m ∧ (n + j) % 64 = 0 ∧ v2 = W8.blocks kW startW (joinb f n p) ((n + j) / 64) ∧ HashRow wx b v2 g2 (n + m) ∧ BytesIn wx a' (m - j) (fun i => p (j + i)) ∧ (0 < m - j → ∀ x, a' = some x → x.block ≠ b) ∧ Chg b w wx)
    case first =>
      have HX2 := Lib.hid (bytesIn_chg HX.out C2.out HAP.out)
      by_cases h0 : h = 0
      · subst h0
        go_wp2_with fail
        go_meet
        have := HH.out
        exact ⟨0, a, v1, g, rfl, Nat.zero_le _, by omega, V2.out, R2.out, by rw [show (fun i => p (0 + i)) = p by funext i; rw [Nat.zero_add]]; exact HX2.out, HAP.out, C2.out⟩
      · have hpos : 0 < (h : Int) := by omega
        obtain ⟨k, hk⟩ : ∃ k, k = Nat.min m (64 - h) := ⟨_, rfl⟩
        have hk3 : h + k ≤ 64 := by
          have : k ≤ 64 - h := by rw [hk]; exact Nat.min_le_right _ _
          omega
        obtain ⟨w3, hcp, S3⟩ := copy_block R2.out h (64 - h) (64 - h) a m c k p hk hk3 HX2.out
        have hsl := fun w' => run_arr64 w' b 8 h h64
        have hk1 : k ≤ m := by rw [hk]; exact Nat.min_le_left _ _
        obtain ⟨a2, hfr, ha2, ha3⟩ := run_from a k m c hk1
        have hk2 : k = m ∨ k = 64 - h := by rw [hk]; show min m (64 - h) = m ∨ min m (64 - h) = _; omega
        have HA2 := Lib.hid ha2
        have HA3 := Lib.hid ha3
        have HK2 := Lib.hid hk2
        have R3 := Lib.hid S3.row
        have C3 := Lib.hid (C2.out.trans S3.chg)
        clear ha2 ha3 hk2 hk S3 R2 C2
        by_cases hfull : h + k < 64
        · have hfI : (h : Int) + (k : Int) < 64 := by omega
          go_wp2_with fail
          refine bodyPost_ret (results_none rfl _ _ _) rfl ?_
          refine ⟨rfl, ⟨v1, _, R3.out, fun _ => ?_, fun i hi => ?_⟩, C3.out⟩
          · have := HH.out; have := HK2.out
            rw [V2.out, show (n + m) / 64 = n / 64 by omega]
          · have hh := HH.out; have := HK2.out
            have e1 : (n + m) / 64 = n / 64 := by omega
            have hg := HG.out
            unfold over8 joinb
            rw [e1]
            by_cases c1 : i < h
            · rw [if_neg (by omega), if_pos (by omega), hg i (by omega)]
            · rw [if_pos (by omega), if_neg (by omega)]
              congr 1
              omega
        · have hfI : ¬ (h : Int) + (k : Int) < 64 := by omega
          have hke : h + k = 64 := by omega
          go_upto_region 9 with fail
          have TKx := Lib.hid (TK.out.chg C3.out hbg)
          refine region_class1 12 (fun w' => Below w3.heap.size w3 w') mixedOrders (by kernel_rfl) (Below.refl _ _).drew rfl ?_
          refine wpQuiet_take (by rfl) (fun K hK => ⟨.pointer (some ⟨b, 0, none⟩), fun w2' hw2 => ?_, hK _ ?_⟩)
          · clear hw2; go_simp
          clear hK K
          simp only [Act.put, List.setIfInBounds_toArray, List.set_cons_succ, List.set_cons_zero]
          refine wpQuiet_take (by rfl) (fun K hK => ⟨.pointer (some ⟨b, 0, none⟩), fun w2' hw2 => ?_, hK _ ?_⟩)
          · clear hw2; go_simp
          clear hK K
          simp only [Act.put, List.setIfInBounds_toArray, List.set_cons_succ, List.set_cons_zero]
          refine wpQuiet_take (by rfl) (fun K hK => ⟨.pointer (some ⟨b, 0, none⟩), fun w2' hw2 => ?_, hK _ ?_⟩)
          · clear hw2; go_simp
          clear hK K
          simp only [Act.put, List.setIfInBounds_toArray, List.set_cons_succ, List.set_cons_zero]
          refine wpQuiet_take (by rfl) (fun K hK => ⟨.pointer (some ⟨b, 0, none⟩), fun w2' hw2 => ?_, hK _ ?_⟩)
          · clear hw2; go_simp
          clear hK K
          simp only [Act.put, List.setIfInBounds_toArray, List.set_cons_succ, List.set_cons_zero]
          refine wpQuiet_take (by rfl) (fun K hK => ⟨.agg (wordsA (v1).get 8), fun w2' hw2 => ?_, hK _ ?_⟩)
          · exact quietAt_run (quiet_load (load_state (R3.out.later hw2)))
          clear hK K
          simp only [Act.put, List.setIfInBounds_toArray, List.set_cons_succ, List.set_cons_zero]
          refine wpQuiet_take (by rfl) (fun K hK => ⟨.pointer (some ⟨b, 0, none⟩), fun w2' hw2 => ?_, hK _ ?_⟩)
          · clear hw2; go_simp
          clear hK K
          simp only [Act.put, List.setIfInBounds_toArray, List.set_cons_succ, List.set_cons_zero]
          refine wpQuiet_take (by rfl) (fun K hK => ⟨.pointer (some ⟨b, 0, none⟩), fun w2' hw2 => ?_, hK _ ?_⟩)
          · clear hw2; go_simp
          clear hK K
          simp only [Act.put, List.setIfInBounds_toArray, List.set_cons_succ, List.set_cons_zero]
          refine wpQuiet_take (by rfl) (fun K hK => ⟨.pointer (some ⟨b, 8, none⟩), fun w2' hw2 => ?_, hK _ ?_⟩)
          · clear hw2; go_simp
          clear hK K
          simp only [Act.put, List.setIfInBounds_toArray, List.set_cons_succ, List.set_cons_zero]
          refine wpQuiet_take (by rfl) (fun K hK => ⟨.agg (bytesA (over8 g h k p) 64), fun w2' hw2 => ?_, hK _ ?_⟩)
          · exact quietAt_run (quiet_load (load_block (R3.out.later hw2)))
          clear hK K
          simp only [Act.put, List.setIfInBounds_toArray, List.set_cons_succ, List.set_cons_zero]
          refine wpQuiet_take (by rfl) (fun K hK => ⟨.agg (wordsA ((v1).turn kW (over8 g h k p)).get 8), fun w2' hw2 => ?_, hK _ ?_⟩)
          · go_simp
            go_at_call 93
            with_reducible refine (turn_any (v1) (over8 g h k p) w2' (TKx.out.later hw2)).mono ?_
            rintro e w4 ⟨rfl, hb4⟩
            exact ⟨rfl, hw2.trans (hb4.mono hw2.size)⟩
          clear hK K
          simp only [Act.put, List.setIfInBounds_toArray, List.set_cons_succ, List.set_cons_zero]
          refine wpQuiet_take (by rfl) (fun K hK => ⟨.pointer (some ⟨b, 0, none⟩), fun w2' hw2 => ?_, hK _ ?_⟩)
          · clear hw2; go_simp
          clear hK K
          simp only [Act.put, List.setIfInBounds_toArray, List.set_cons_succ, List.set_cons_zero]
          refine wpQuiet_take (by rfl) (fun K hK => ⟨.pointer (some ⟨b, 0, none⟩), fun w2' hw2 => ?_, hK _ ?_⟩)
          · clear hw2; go_simp
          clear hK K
          simp only [Act.put, List.setIfInBounds_toArray, List.set_cons_succ, List.set_cons_zero]
          refine wpQuiet_take0 ?_
          intro w4 hb4
          have R4 := Lib.hid (R3.out.later hb4)
          have C4 := Lib.hid (C3.out.trans (Chg.of_below hb4))
          have TH := R4.out.there (o := 0) (k := 8) (by omega)
          have TH2 := Lib.hid TH
          clear hb4 TH
          go_wp2_with (refine wpList_store_mid rfl 143 _ _ rfl b 0 (wordsA (v1.turn kW (over8 g h k p)).get 8) rfl rfl (by rw [wordsA_size]; exact TH2.out) (by rw [wordsA_size]; kernel_rfl) (wordsA_one _ _) ?_)
          have hs := R4.out.setState (v1.turn kW (over8 g h k p))
          go_meet
          have hh := HH.out
          refine ⟨k, a2, _, _, rfl, hk1, by omega, ?_, hs.row, bytesIn_chg (bytesIn_from HX.out hk1 hc HA2.out) (C4.out.trans hs.chg) ?_, ?_, C4.out.trans hs.chg⟩
          · rw [show (n + k) / 64 = n / 64 + 1 by omega]
            show _ = (W8.blocks kW startW (joinb f n p) (n / 64)).turn kW _
            rw [V2.out]
            refine W8.turn_congr (fun i hi => ?_)
            have hg := HG.out
            unfold over8 joinb
            by_cases c1 : i < h
            · rw [if_neg (by omega), if_pos (by omega), hg i (by omega)]
            · rw [if_pos (by omega), if_neg (by omega)]
              congr 1
              omega
          · exact apart_from HAP.out HA2.out HA3.out
          · exact apart_from HAP.out HA2.out HA3.out
    case rest =>
      obtain ⟨j, a', v2, g2, rfl, hj, hj64, hv2, row2, bin2, ap2, chg2⟩ := hcut
      have V0 := Lib.hid hv2
      have R0 := Lib.hid row2
      have B0 := Lib.hid bin2
      have A0 := Lib.hid ap2
      have C0 := Lib.hid chg2
      clear hv2 row2 bin2 ap2 chg2 V2 R2 C2 HX HAP HG HH
      go_wp2_with fail
      go_loopw [1] (fun s wr => ∃ (j : Nat) (a' : Option Addr) (v2 : W8) (g2 : Nat → BitVec 8), s = .slice a' (m - j) (c - j) ∧ j ≤ m ∧ (n + j) % 64 = 0 ∧ v2 = W8.blocks kW startW (joinb f n p) ((n + j) / 64) ∧ HashRow wr b v2 g2 (n + m) ∧ BytesIn wr a' (m - j) (fun i => p (j + i)) ∧ (0 < m - j → ∀ x, a' = some x → x.block ≠ b) ∧ Chg b w wr)
        (fun s _ => (match s with | .slice _ l _ => l | _ => 0))
      case atStart => exact ⟨j, a', v2, g2, rfl, hj, hj64, V0.out, R0.out, B0.out, A0.out, C0.out⟩
      case round =>
        clear V0 R0 B0 A0 C0 hj hj64
        obtain ⟨j, a', v2, g2, rfl, hj, hj64, hv2, row2, bin2, ap2, chg2⟩ := hrel
        have V0 := Lib.hid hv2
        have R0 := Lib.hid row2
        have B0 := Lib.hid bin2
        have A0 := Lib.hid ap2
        have C0 := Lib.hid chg2
        clear hv2 row2 bin2 ap2 chg2
        by_cases hl : 64 ≤ m - j
        · have hlI : (64 : Int) ≤ ((m - j : Nat) : Int) := by omega
          obtain ⟨bb, bo, rfl, hbb, hcc⟩ : ∃ bb bo, a' = some ⟨bb, bo, none⟩ ∧ bb < wr.heap.size ∧ ∀ i, i < m - j → wr.cell? ⟨bb, bo + i, none⟩ = some (.int .u8 (n8 (p (j + i)))) := by
            rcases B0.out.2 with h0 | h1
            · omega
            · exact h1
          have HBB := Lib.hid hbb
          have HCC := Lib.hid hcc
          have har : ∀ w', (Instr.arrayAt 132 (.slice (some ⟨bb, bo, none⟩) (m - j) (c - j))).run Tryd.prog w' = .ok (.pointer (some ⟨bb, bo, none⟩)) w' := fun w' => run_arrayAt w' 132 5 64 _ (m - j) (c - j) (by kernel_rfl) hl
          obtain ⟨a3, hfr0, ha2, ha3⟩ := run_from (some ⟨bb, bo, none⟩) 64 (m - j) (c - j) hl
          have hfr : ∀ w' : World, (Instr.sliceAt 31 (.slice (some ⟨bb, bo, none⟩) (m - j) (c - j)) (some (.int .i64 64)) none none).run Tryd.prog w' = .ok (.slice a3 (m - j - 64) (c - j - 64)) w' := hfr0
          clear hfr0
          have HA2 := Lib.hid ha2
          have HA3 := Lib.hid ha3
          clear hbb hcc ha2 ha3
          go_upto_region 11 with fail
          have TKx := Lib.hid (TK.out.chg C0.out hbg)
          refine region_class1 11 (fun w' => Below wr.heap.size wr w') mixedOrders (by kernel_rfl) (Below.refl _ _).drew rfl ?_
          refine wpQuiet_take (by rfl) (fun K hK => ⟨.pointer (some ⟨b, 0, none⟩), fun w2' hw2 => ?_, hK _ ?_⟩)
          · clear hw2; go_simp
          clear hK K
          simp only [Act.put, List.setIfInBounds_toArray, List.set_cons_succ, List.set_cons_zero]
          refine wpQuiet_take (by rfl) (fun K hK => ⟨.pointer (some ⟨b, 0, none⟩), fun w2' hw2 => ?_, hK _ ?_⟩)
          · clear hw2; go_simp
          clear hK K
          simp only [Act.put, List.setIfInBounds_toArray, List.set_cons_succ, List.set_cons_zero]
          refine wpQuiet_take (by rfl) (fun K hK => ⟨.pointer (some ⟨b, 0, none⟩), fun w2' hw2 => ?_, hK _ ?_⟩)
          · clear hw2; go_simp
          clear hK K
          simp only [Act.put, List.setIfInBounds_toArray, List.set_cons_succ, List.set_cons_zero]
          refine wpQuiet_take (by rfl) (fun K hK => ⟨.pointer (some ⟨b, 0, none⟩), fun w2' hw2 => ?_, hK _ ?_⟩)
          · clear hw2; go_simp
          clear hK K
          simp only [Act.put, List.setIfInBounds_toArray, List.set_cons_succ, List.set_cons_zero]
          refine wpQuiet_take (by rfl) (fun K hK => ⟨.agg (wordsA (v2).get 8), fun w2' hw2 => ?_, hK _ ?_⟩)
          · exact quietAt_run (quiet_load (load_state (R0.out.later hw2)))
          clear hK K
          simp only [Act.put, List.setIfInBounds_toArray, List.set_cons_succ, List.set_cons_zero]
          refine wpQuiet_take (by rfl) (fun K hK => ⟨.slice (some ⟨bb, bo, none⟩) (m - j) (c - j), fun w2' hw2 => ?_, hK _ ?_⟩)
          · clear hw2; go_simp
          clear hK K
          simp only [Act.put, List.setIfInBounds_toArray, List.set_cons_succ, List.set_cons_zero]
          refine wpQuiet_take (by rfl) (fun K hK => ⟨.pointer (some ⟨bb, bo, none⟩), fun w2' hw2 => ?_, hK _ ?_⟩)
          · clear hw2; go_simp
          clear hK K
          simp only [Act.put, List.setIfInBounds_toArray, List.set_cons_succ, List.set_cons_zero]
          refine wpQuiet_take (by rfl) (fun K hK => ⟨.agg (bytesA (fun i => p (j + i)) 64), fun w2' hw2 => ?_, hK _ ?_⟩)
          · exact quietAt_run (quiet_load (load_bytes64 _ _ _ _ (fun i hi => by rw [hw2.cell (p := ⟨bb, bo + i, none⟩) HBB.out]; exact HCC.out i (by omega))))
          clear hK K
          simp only [Act.put, List.setIfInBounds_toArray, List.set_cons_succ, List.set_cons_zero]
          refine wpQuiet_take (by rfl) (fun K hK => ⟨.agg (wordsA ((v2).turn kW (fun i => p (j + i))).get 8), fun w2' hw2 => ?_, hK _ ?_⟩)
          · go_simp
            go_at_call 93
            with_reducible refine (turn_any (v2) (fun i => p (j + i)) w2' (TKx.out.later hw2)).mono ?_
            rintro e w4 ⟨rfl, hb4⟩
            exact ⟨rfl, hw2.trans (hb4.mono hw2.size)⟩
          clear hK K
          simp only [Act.put, List.setIfInBounds_toArray, List.set_cons_succ, List.set_cons_zero]
          refine wpQuiet_take (by rfl) (fun K hK => ⟨.pointer (some ⟨b, 0, none⟩), fun w2' hw2 => ?_, hK _ ?_⟩)
          · clear hw2; go_simp
          clear hK K
          simp only [Act.put, List.setIfInBounds_toArray, List.set_cons_succ, List.set_cons_zero]
          refine wpQuiet_take (by rfl) (fun K hK => ⟨.pointer (some ⟨b, 0, none⟩), fun w2' hw2 => ?_, hK _ ?_⟩)
          · clear hw2; go_simp
          clear hK K
          simp only [Act.put, List.setIfInBounds_toArray, List.set_cons_succ, List.set_cons_zero]
          refine wpQuiet_take0 ?_
          intro w4 hb4
          have R4 := Lib.hid (R0.out.later hb4)
          have C4 := Lib.hid (C0.out.trans (Chg.of_below hb4))
          have TH2 := Lib.hid (R4.out.there (o := 0) (k := 8) (by omega))
          have B4 := Lib.hid (bytesIn_ext B0.out hb4)
          clear hb4
          go_upto_region 12 with (refine wpList_store_mid rfl 143 _ _ rfl b 0 (wordsA (v2.turn kW (fun i => p (j + i))).get 8) rfl rfl (by rw [wordsA_size]; exact TH2.out) (by rw [wordsA_size]; kernel_rfl) (wordsA_one _ _) ?_)
          have hs := Lib.hid (R4.out.setState (v2.turn kW (fun i => p (j + i))))
          go_wp2_with fail
          go_roundw
          case rel =>
            refine ⟨j + 64, a3, _, g2, by rw [Nat.sub_add_eq, Nat.sub_add_eq], by omega, by omega, ?_, hs.out.row, ?_, by rw [Nat.sub_add_eq]; exact apart_from A0.out HA2.out HA3.out, C4.out.trans hs.out.chg⟩
            · rw [show (n + (j + 64)) / 64 = (n + j) / 64 + 1 by omega]
              show _ = (W8.blocks kW startW (joinb f n p) ((n + j) / 64)).turn kW _
              rw [V0.out]
              refine W8.turn_congr (fun i hi => ?_)
              unfold joinb
              rw [if_neg (by omega)]
              congr 1
              omega
            · have := bytesIn_from (bytesIn_chg B4.out hs.out.chg A0.out) hl (by omega) HA2.out
              rw [Nat.sub_add_eq, show (fun i => p (j + 64 + i)) = (fun i => p (j + (64 + i))) by funext i; rw [Nat.add_assoc]]
              exact this
          case measure => (simp <;> omega)
        · have hlI : ¬ (64 : Int) ≤ ((m - j : Nat) : Int) := by omega
          have hall := fun w' => run_arr64_all w' b 8
          obtain ⟨w3, hcp, S3⟩ := copy_block R0.out 0 64 64 a' (m - j) (c - j) (m - j) (fun i => p (j + i)) (Nat.min_eq_left (by omega)).symm (by omega) B0.out
          have hcp' : (Builtin.copy_ #[31, 31] 3 #[.slice (some ⟨b, 8, none⟩) 64 64, .slice a' (m - j) (c - j)]).run Tryd.prog wr = .ok (goInt ((m - j : Nat) : Int)) w3 := hcp
          have S := Lib.hid S3
          clear hcp S3
          go_wp2_with fail
          go_end0
          refine ⟨rfl, ⟨v2, _, S.out.row, fun _ => ?_, fun i hi => ?_⟩, C0.out.trans S.out.chg⟩
          · rw [V0.out, show (n + m) / 64 = (n + j) / 64 by omega]
          · unfold over8 joinb
            rw [if_pos (by omega), if_neg (by omega)]
            show p (j + (i - 0)) = p _
            congr 1
            omega
end Go.Proofs.YtjbpjoondmcnlabDoor
/-
  sha: Sum: the sum of what a hash has taken.
-/
namespace Go.Proofs.YtjbpjoondmcnlabDoor
open Go Go.RowKit Go.BigFrame
set_option linter.unusedSimpArgs false
set_option linter.unusedVariables false
def zeroW : W8 := ⟨0#32, 0#32, 0#32, 0#32, 0#32, 0#32, 0#32, 0#32⟩
theorem zero_hash : (Tryd.prog.info? 145).map (·.zero) = some (some (.agg (hashA zeroW (fun _ => 0#8) 0))) := by kernel_rfl
theorem zero_72 : (Tryd.prog.info? 148).map (·.zero) = some (some (.agg (bytesA (fun _ => 0#8) 72))) := by kernel_rfl
theorem zero_32 : (Tryd.prog.info? 103).map (·.zero) = some (some (.agg (bytesA (fun _ => 0#8) 32))) := by kernel_rfl
theorem zero_64 : (Tryd.prog.info? 132).map (·.zero) = some (some (.agg (bytesA (fun _ => 0#8) 64))) := by kernel_rfl
theorem hashSt_zero {w : World} {b : Nat} {v : W8} {g : Nat → BitVec 8} (f : Nat → BitVec 8) (h : HashRow w b v g 0) : HashSt w b f 0 := ⟨v, g, h, fun h0 => absurd rfl h0, fun i hi => by simp at hi⟩
theorem run_arr72 (w : World) (b h : Nat) (hh : h < 72) : (Instr.sliceAt 148 (.pointer (some ⟨b, 0, none⟩)) (some (.int .i64 (h : Int))) none none).run Tryd.prog w = .ok (.slice (some ⟨b, h, none⟩) (72 - h) (72 - h)) w := by
  have h0 : (0 : Int) ≤ (h : Int) := by omega
  have h1 : (h : Int) ≤ 72 := by omega
  have hne : ¬ 72 = h := by omega
  have e : ((⟨b, 0, none⟩ : Addr).add h) = ⟨b, 0 + h, none⟩ := Addr.add_mid _ _ _
  simp [go_sem, h0, h1, hne, e, slicedAt]
theorem run_arr72_upto (w : World) (b h : Nat) (hh : h ≤ 72) : (Instr.sliceAt 148 (.pointer (some ⟨b, 0, none⟩)) none (some (.int .i64 (h : Int))) none).run Tryd.prog w = .ok (.slice (some ⟨b, 0, none⟩) h 72) w := by
  have h0 : (0 : Int) ≤ (h : Int) := by omega
  have h1 : (h : Int) ≤ 72 := by omega
  simp [go_sem, h0, h1, slicedAt]
/-- What the padding is, as bytes: k of them ahead of the length's eight. -/
def padB (x : BitVec 64) (k : Nat) (i : Nat) : BitVec 8 := if k ≤ i ∧ i < k + 8 then lengthB x (i - k) else if i = 0 then 128#8 else 0#8
theorem pad_total (n : Nat) : n + (64 - (n + 8) % 64 + 8) = 64 * ((n + 8) / 64 + 1) := by omega
theorem pad_padded (f : Nat → BitVec 8) (n : Nat) (hn : n < 1152921504606846976) (i : Nat) (hi : i < 64 * ((n + 8) / 64 + 1)) :
    joinb f n (padB (BitVec.ofNat 64 (n * 8)) (64 - (n + 8) % 64)) i = padded f n i := by
  unfold joinb padded
  by_cases h1 : i < n
  · rw [if_pos h1, if_pos h1]
  rw [if_neg h1, if_neg h1]
  unfold padB
  have hk : 1 ≤ 64 - (n + 8) % 64 := by omega
  by_cases h2 : i = n
  · subst h2
    rw [if_neg (by omega), if_pos (by omega), if_pos rfl]
  rw [if_neg h2]
  by_cases h3 : 64 * ((n + 8) / 64 + 1) - 8 ≤ i
  · rw [if_pos h3, if_pos (by omega)]
    unfold lengthB
    apply BitVec.eq_of_toNat_eq
    rw [BitVec.toNat_setWidth, BitVec.toNat_ushiftRight, BitVec.toNat_ofNat, BitVec.toNat_ofNat, Nat.shiftRight_eq_div_pow, Nat.mod_eq_of_lt (a := n * 8) (by omega)]
    have e : 2 ^ (56 - 8 * (i - n - (64 - (n + 8) % 64))) = 256 ^ (64 * ((n + 8) / 64 + 1) - 1 - i) := by
      rw [show 56 - 8 * (i - n - (64 - (n + 8) % 64)) = 8 * (64 * ((n + 8) / 64 + 1) - 1 - i) by omega, Nat.pow_mul]
    rw [e]
  · rw [if_neg h3, if_neg (by omega), if_neg (by omega)]
set_option maxHeartbeats 8000000 in
set_option maxRecDepth 100000 in
theorem sum_any (x : Option Addr) (n : Nat) (f : Nat → BitVec 8) (w : World) (T : TabK w) (H : (x = none ∧ n = 0) ∨ ∃ b, x = some ⟨b, 0, none⟩ ∧ HashSt w b f n) (hsz : n < 576460752303423488) :
    Calls Tryd.prog 82 #[.pointer x] w fun e w' => e = .returned (.agg (bytesA (sumB kW startW f n) 32)) ∧ Below w.heap.size w w' := by
  have TK := Lib.hid T
  have HH := Lib.hid H
  have TL := T.lt
  clear T H
  go_enter Tryd.func82, Tryd.ntmps82
  go_upto_if 7 with (first | (refine wpList_alloc_row (o := ⟨some 2, .alloc 103, _, _, _, _⟩) rfl 103 rfl _ zero_32 ?_) | (refine wpList_alloc_row (o := ⟨some 3, .alloc 145, _, _, _, _⟩) rfl 145 rfl _ zero_hash ?_))
  obtain ⟨wa, hwa⟩ : ∃ wa, (w.alloc (.cells (bytesA (fun _ => 0#8) 32) 103)).alloc (.cells (hashA zeroW (fun _ => 0#8) 0) 145) = wa := ⟨_, rfl⟩
  have K0 : wa.heap[w.heap.size]? = some (.cells (bytesA (fun _ => 0#8) 32) 103 (0, 0)) := by
    rw [← hwa]; exact rows_alloc w [.cells (bytesA (fun _ => 0#8) 32) 103, .cells (hashA zeroW (fun _ => 0#8) 0) 145] 0
  have K1 : HashRow wa (w.heap.size + 1) zeroW (fun _ => 0#8) 0 := by
    unfold HashRow
    rw [← hwa]; exact rows_alloc w [.cells (bytesA (fun _ => 0#8) 32) 103, .cells (hashA zeroW (fun _ => 0#8) 0) 145] 1
  have hb : Below w.heap.size w wa := by
    rw [← hwa]
    repeat (first | exact Below.refl _ _ | refine Below.alloc ?_ (by simp; try omega) _)
  simp only [hwa]
  clear hwa
  have HW : Hid ((x = none ∧ n = 0) ∨ ∃ b, x = some ⟨b, 0, none⟩ ∧ b < w.heap.size ∧ HashSt wa b f n) := Lib.hid (by
    rcases HH.out with h | ⟨b, h1, h2⟩
    · exact .inl h
    · exact .inr ⟨b, h1, h2.lt, h2.later hb⟩)
  have TKa := Lib.hid (TK.out.later hb)
  obtain ⟨q, hq⟩ : ∃ q, w.heap.size = q := ⟨_, rfl⟩
  obtain ⟨r, hr⟩ : ∃ r, q + 1 = r := ⟨_, rfl⟩
  rw [hq] at K0 K1 hb HW TL
  rw [hr] at K1
  simp only [hq, hr]
  have hqr : q < r := by omega
  have HQ := Lib.hid hq
  have K0' := Lib.hid K0
  have K1' := Lib.hid K1
  have HB := Lib.hid hb
  clear hq hr K0 K1 hb TK HH
  go_cut [] (fun wx => HashSt wx r f n ∧ wx.heap[q]? = some (.cells (bytesA (fun _ => 0#8) 32) 103 (0, 0)) ∧ Below q w wx ∧ TabK wx)
  case first =>
    rcases HW.out with ⟨rfl, rfl⟩ | ⟨b, rfl, hbq, hst⟩
    · go_wp2_with fail
      go_meet
      exact ⟨hashSt_zero f K1'.out, K0'.out, HB.out, TKa.out⟩
    · obtain ⟨v, g, hrow, hv, hg⟩ := hst
      have HV := Lib.hid hv
      have HG := Lib.hid hg
      have R0 := Lib.hid hrow
      clear hv hg hrow HW
      go_wp2_with (first
        | (refine wpList_load_row rfl 145 _ rfl b rfl _ _ (0, 0) _ R0.out Tryd.underlying145 rfl (by rw [hashA_size]; kernel_rfl) ?_)
        | (refine wpList_store_row rfl 145 _ _ rfl r _ _ (hashA v g n) rfl rfl K1'.out (by rw [hashA_size, hashA_size]) (by rw [hashA_size]; kernel_rfl) (hashA_one _ _ _) ?_; intro w4 s4))
      go_meet
      exact ⟨⟨v, g, s4.row, HV.out, HG.out⟩, s4.keep (by omega) K0'.out, HB.out.trans (s4.below _ (by omega)), TKa.out.chg s4.chg (by omega)⟩
  case rest =>
    obtain ⟨st, k0, bel, tk⟩ := hcut
    clear HW K0' K1' HB TKa wa
    obtain ⟨v, g, hrow, hv, hg⟩ := st
    have hrs : r < wc.heap.size := lt_row hrow
    go_upto_region 5 with (refine wpList_alloc_row (o := ⟨some 4, .alloc 148, _, _, _, _⟩) rfl 148 rfl _ zero_72 ?_)
    have r72 : (wc.alloc (.cells (bytesA (fun _ => 0#8) 72) 148)).heap[wc.heap.size]? = some (.cells (bytesA (fun _ => 0#8) 72) 148 (0, 0)) := heap_alloc_last _ _
    have hba : Below wc.heap.size wc (wc.alloc (.cells (bytesA (fun _ => 0#8) 72) 148)) := (Below.refl _ _).alloc (Nat.le_refl _) _
    obtain ⟨wb, hwb⟩ : ∃ wb, wc.alloc (.cells (bytesA (fun _ => 0#8) 72) 148) = wb := ⟨_, rfl⟩
    have hszb : wb.heap.size = wc.heap.size + 1 := by rw [← hwb]; exact alloc_size _ _
    simp only [Act.put, List.setIfInBounds_toArray, List.set_cons_succ, List.set_cons_zero, hwb]
    rw [hwb] at r72 hba
    obtain ⟨s, hs⟩ : ∃ s, wc.heap.size = s := ⟨_, rfl⟩
    simp only [hs]
    have R1 := hrow.later hba
    have K1 := (hba.block q (by have := lt_row k0; omega)).trans k0
    have BE := bel.trans (hba.mono (by have := lt_row k0; omega))
    have T1 := tk.later hba
    rw [hs] at r72 hrs hszb
    have hv' := Lib.hid hv
    have hg' := Lib.hid hg
    have hqs : q < s := by omega
    clear hs hba hwb k0 bel tk hrow hv hg
    clear wc
    have e128 : n8 128#8 = 128 := by unfold n8; rfl
    have kc : wb.cell? ⟨s, 0, none⟩ = some (.int .u8 (n8 0#8)) := by rw [cell_of_row _ _ _ _ _ _ r72]; exact bytesA_get _ (by omega)
    have fz : wb.frozen? ⟨s, 0, none⟩ = false := frozen_of_row _ _ _ _ _ r72
    have QS := rowSet_cell wb s 0 148 _ (.int .u8 (n8 128#8)) r72
    rw [bytesA_set, e128] at QS
    have R2 := Lib.hid (QS.chg.row (k := r) (by omega) R1)
    have K2 := Lib.hid (QS.keep (k := q) (by omega) K1)
    have B2 := Lib.hid (BE.trans (QS.below _ (by omega)))
    have T2 := Lib.hid (T1.chg QS.chg (by omega))
    have S2 := Lib.hid QS.row
    have Z2 := Lib.hid QS.size
    clear R1 K1 BE T1 QS r72 e128
    go_upto_region 6 with fail
    obtain ⟨w2, hw2⟩ : ∃ w2, wb.setCell ⟨s, 0, none⟩ (.int .u8 128) = w2 := ⟨_, rfl⟩
    rw [hw2] at R2 K2 B2 T2 S2 Z2
    simp only [hw2]
    clear hw2 kc fz
    have cl := HashRow.len R2.out
    go_upto_region 7 with fail
    obtain ⟨k, hk⟩ : ∃ k, 64 - (n + 8) % 64 = k := ⟨_, rfl⟩
    have hkI : 64 - ((n : Int) + 8) % 64 = (k : Int) := by omega
    have hk72 : k < 72 := by omega
    simp only [hkI]
    have HK := Lib.hid hk
    have hsl := fun w' => run_arr72 w' s k hk72
    have hx8 : n64 (BitVec.ofNat 64 (n * 8)) = (n : Int) * 8 := by
      rw [n64_nat, BitVec.toNat_ofNat, Nat.mod_eq_of_lt (by omega)]; omega
    have HW8 := Lib.hid (show IntKind.u64.wrap ((n : Int) * 8) = (n : Int) * 8 by rw [IntKind.wrap_u64]; omega)
    clear hk hkI
    have szb : wb.heap.size = s + 1 := hszb
    refine region_class1 5 (fun w' => Below w2.heap.size w2 w') mixedOrders (by kernel_rfl) (Below.refl _ _).drew rfl ?_
    refine wpQuiet_take (by rfl) (fun K hK => ⟨.int .i64 (k : Int), fun w2' hw2 => ?_, hK _ ?_⟩)
    · clear hw2; go_simp
    clear hK K
    simp only [Act.put, List.setIfInBounds_toArray, List.set_cons_succ, List.set_cons_zero]
    refine wpQuiet_take (by rfl) (fun K hK => ⟨.slice (some ⟨s, k, none⟩) (72 - k) (72 - k), fun w2' hw2 => ?_, hK _ ?_⟩)
    · clear hw2; go_simp
    clear hK K
    simp only [Act.put, List.setIfInBounds_toArray, List.set_cons_succ, List.set_cons_zero]
    refine wpQuiet_take (by rfl) (fun K hK => ⟨.pointer (some ⟨r, 72, none⟩), fun w2' hw2 => ?_, hK _ ?_⟩)
    · clear hw2; go_simp
    clear hK K
    simp only [Act.put, List.setIfInBounds_toArray, List.set_cons_succ, List.set_cons_zero]
    refine wpQuiet_take (by rfl) (fun K hK => ⟨.int .u64 (n : Int), fun w2' hw2 => ?_, hK _ ?_⟩)
    · have cl2 := (HashRow.later R2.out hw2).len
      clear hw2; go_simp
    clear hK K
    simp only [Act.put, List.setIfInBounds_toArray, List.set_cons_succ, List.set_cons_zero]
    refine wpQuiet_take (by rfl) (fun K hK => ⟨.int .u64 ((n : Int) * 8), fun w2' hw2 => ?_, hK _ ?_⟩)
    · have h8 := HW8.out
      clear hw2; go_simp
    clear hK K
    simp only [Act.put, List.setIfInBounds_toArray, List.set_cons_succ, List.set_cons_zero]
    refine wpQuiet_take0 ?_
    intro w3 hb3
    have R3 := Lib.hid (HashRow.later R2.out hb3)
    have K3 := Lib.hid ((hb3.block q (lt_row K2.out)).trans K2.out)
    have S3 := Lib.hid ((hb3.block s (lt_row S2.out)).trans S2.out)
    have B3 := Lib.hid (B2.out.trans (hb3.mono (by have := lt_row K2.out; omega)))
    have T3 := Lib.hid (T2.out.later hb3)
    clear hb3 R2 K2 S2 B2 T2 cl
    have PL := putLength_any (BitVec.ofNat 64 (n * 8)) (fun i => if i = 0 then 128#8 else 0#8) 72 s k (72 - k) (72 - k) 148 (by have := HK.out; omega) (by omega) w3 S3.out
    rw [hx8] at PL
    have PLH := Lib.hid PL
    clear PL hx8
    go_wp2_with fail
    with_reducible refine PLH.out.mono ?_
    rintro e w4 ⟨rfl, s4⟩
    have s4' : w4.heap[s]? = some (.cells (bytesA (padB (BitVec.ofNat 64 (n * 8)) k) 72) 148 (0, 0)) := s4.row
    have R4 := Lib.hid (s4.chg.row (k := r) (by omega) R3.out)
    have K4 := Lib.hid (s4.keep (k := q) (by omega) K3.out)
    have B4 := Lib.hid (B3.out.trans (s4.below _ (by omega)))
    have T4 := Lib.hid (T3.out.chg s4.chg (by omega))
    have S4 := Lib.hid s4'
    clear s4 s4' R3 K3 B3 T3 S3 PLH
    have hsu : ∀ w' : World, (Instr.sliceAt 148 (.pointer (some ⟨s, 0, none⟩)) none (some (.int .i64 ((k : Int) + 8))) none).run Tryd.prog w' = .ok (.slice (some ⟨s, 0, none⟩) (k + 8) 72) w' := fun w' => by
      have h := run_arr72_upto w' s (k + 8) (by have := HK.out; omega)
      rw [show ((k + 8 : Nat) : Int) = (k : Int) + 8 by omega] at h
      exact h
    have WR := Lib.hid (write_any r n (k + 8) 72 f (padB (BitVec.ofNat 64 (n * 8)) k) (some ⟨s, 0, none⟩) w4 T4.out (by omega) ⟨v, g, R4.out, hv'.out, hg'.out⟩
      ⟨by unfold maxLen; omega, .inr ⟨s, 0, rfl, lt_row S4.out, fun i hi => by rw [Nat.zero_add, cell_of_row _ _ _ _ _ _ S4.out]; exact bytesA_get _ (by have := HK.out; omega)⟩⟩ (by have := HK.out; omega) (by unfold maxLen; omega)
      (fun _ x hx => by injection hx with hx; subst hx; show s ≠ r; omega) (by omega))
    clear hv' hg' R4
    go_wp2_with fail
    with_reducible refine WR.out.mono ?_
    rintro e w5 ⟨rfl, st5, ch5⟩
    obtain ⟨v5, g5, row5, hv5, _⟩ := st5
    have tot := pad_total n
    rw [HK.out] at tot
    have e5 : v5 = W8.blocks kW startW (padded f n) ((n + 8) / 64 + 1) := by
      rw [hv5 (by omega), tot, Nat.mul_div_cancel_left _ (by omega)]
      refine W8.blocks_congr _ (fun i hi => ?_)
      have := pad_padded f n (by omega) i hi
      rw [HK.out] at this
      exact this
    have R5 := Lib.hid row5
    have K5 := Lib.hid (ch5.row (k := q) (by omega) K4.out)
    have B5 := Lib.hid (B4.out.trans (ch5.below (by omega) (by have := lt_row K4.out; omega)))
    have E5 := Lib.hid e5
    clear hv5 e5 row5 ch5 WR K4 B4 T4 S4 tot hsl hsu
    go_wp2_with (refine wpList_run (o := ⟨some 29, .load 143 (.tmp 28), _, _, _, _⟩) rfl (quiet_load (load_state R5.out)) ?_)
    with_reducible refine (sumOf_any v5 _).mono ?_
    rintro e w6 ⟨rfl, hb6⟩
    have K6 := Lib.hid ((hb6.block q (lt_row K5.out)).trans K5.out)
    have B6 := Lib.hid (B5.out.trans (hb6.mono (by have := lt_row K5.out; omega)))
    clear hb6 K5 B5
    go_wp2_with (refine wpList_store_row rfl 103 _ _ rfl q _ _ (bytesA (stateB v5) 32) rfl rfl K6.out (by rw [bytesA_size, bytesA_size]) (by rw [bytesA_size]; kernel_rfl) (bytesA_one _ _) ?_; intro w7 s7)
    exact ret_row q _ 103 (bytesA (stateB v5) 32) rfl _ rfl s7.row Tryd.underlying103 rfl (by rw [bytesA_size]; kernel_rfl) rfl ⟨by rw [sumB_state, E5.out], by rw [HQ.out]; exact B6.out.trans (s7.below _ (Nat.le_refl _))⟩
end Go.Proofs.YtjbpjoondmcnlabDoor
