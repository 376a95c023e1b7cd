/-
  name: the document's bytes of a name.
-/
import Derived.Test.YtddpfbeclmgndaaDoorNmW
import Derived.Test.YtddpfbeclmgndaaDoorAny
namespace Go.Proofs.YtddpfbeclmgndaaDoor
open Go Go.RowKit Go.BigFrame
set_option linter.unusedSimpArgs false
set_option linter.unusedVariables false
theorem ext_below {B : Nat} {w0 w w2 : World} (h : Ext w w2) (hb : Below B w0 w) (hB : B ≤ w.heap.size) : Below B w0 w2 := hb.trans (Below.mono (show Below w.heap.size w w2 from h) hB)
set_option maxHeartbeats 4000000 in
set_option maxRecDepth 100000 in
theorem docWire_bad (L : List (BitVec 8)) (w : World) (hL : L.length ≤ 2000000) (hr : rightB L = false) : Calls Tryd.prog 13 #[.string (sL L)] w fun e w' =>
    e = .returned (.tuple #[.string ⟨#[]⟩, .int .i64 14]) ∧ Below w.heap.size w w' := by
  have HD := Lib.hid (fun w => docLabels_any L w hL)
  have HP : Hid (∀ B v c w, DlPost B L v c w → v = .slice none 0 0 ∧ c = 14) := by
    intro B v c w h
    rcases h with h | h
    · exact h.2
    · rw [hr] at h; cases h.1
  clear hr
  generalize sL L = S at *
  go_enter Tryd.func13, Tryd.ntmps13
  go_wp2_with (go_at_call 11; refine (HD.out _).mono ?_; rintro e w1 ⟨v, c, rfl, hp, B1⟩; obtain ⟨rfl, rfl⟩ := HP.out _ _ _ _ hp; clear hp)
  go_ret2
  exact ⟨rfl, B1⟩
set_option maxHeartbeats 8000000 in
set_option maxRecDepth 100000 in
theorem docWire_ok (L : List (BitVec 8)) (w : World) (hr : rightB L = true) : Calls Tryd.prog 13 #[.string (sL L)] w fun e w' =>
    e = .returned (.tuple #[.string (sL (wireF L)), .int .i64 0]) ∧ Below w.heap.size w w' := by
  have hl := right_le hr
  have HD := Lib.hid (fun w => docLabels_any L w (by omega))
  have hps := lab_part hr
  have hn := lab_le hr
  have HW : Hid (wireF L = wireTo (labF L) ++ [0#8]) := rfl
  have HP : Hid (∀ B v c w, DlPost B L v c w → c = 0 ∧ OwnT B v (labF L) w) := by
    intro B v c w h
    rcases h with h | h
    · rw [hr] at h; cases h.1
    · exact h.2
  generalize wireF L = WF at *
  generalize labF L = P at *
  generalize sL L = S at *
  obtain ⟨n, hN⟩ : ∃ n, P.length = n := ⟨_, rfl⟩
  rw [hN] at hn
  have HL := Lib.hid (fun k => wireTo_le (P.take k) (fun p hp => part_le (hps p (List.mem_of_mem_take hp))))
  have HQ := Lib.hid hps
  have HN := Lib.hid hN
  clear hps hN hr
  go_enter Tryd.func13, Tryd.ntmps13
  go_upto_region 2 with (go_at_call 11; refine (HD.out _).mono ?_; rintro e w1 ⟨v, c, rfl, hp, B1⟩; obtain ⟨rfl, R1⟩ := HP.out _ _ _ _ hp; clear hp)
  obtain ⟨ad, cap, hv⟩ := R1.shape
  subst hv
  have RR := Lib.hid R1
  rw [HN.out] at RR ⊢
  have BB := Lib.hid B1
  clear R1 B1
  go_wp2_with fail
  go_loopw [6, 7] (fun s6 s7 wr => ∃ k : Nat, k ≤ n ∧ s7 = .int .i64 (k : Int) ∧ s6 = .string (sL (wireTo (P.take k))) ∧ Hid (Below w1.heap.size w1 wr)) (fun _ s7 _ => n - (intOf s7).toNat)
  case atStart => exact ⟨0, by omega, rfl, rfl, Below.refl _ _⟩
  case round =>
    obtain ⟨k, hk, rfl, rfl, HBe⟩ := hrel
    by_cases hkn : k < n
    · have hkn' : (k : Int) < (n : Int) := by omega
      obtain ⟨a, cp, hv, hnc, hcm, hc, hBa, halt⟩ := RR.out.at k (by rw [HN.out]; exact hkn)
      rw [HN.out] at hv hnc
      injection hv with hv hv2 hv3
      subst hv hv3
      have hcr := (HBe.out.cell (p := ⟨a, k, none⟩) halt).trans hc
      have hpl : (P[k]'(by rw [HN.out]; exact hkn)).length ≤ 63 := part_le (HQ.out _ (List.getElem_mem (by rw [HN.out]; exact hkn)))
      have htl : (P.take k).length ≤ k := by rw [List.length_take]; omega
      have hwl := HL.out k
      have hwl2 : (wireTo (P.take k)).length ≤ 20000 := by omega
      have hsn : Hid (wireTo (P.take (k + 1)) = wireTo (P.take k) ++ partF (P[k]'(by rw [HN.out]; exact hkn))) := by
        rw [← wireTo_snoc]
        congr 1
        exact (List.take_append_getElem (by rw [HN.out]; exact hkn)).symm
      clear hc htl hwl hv2
      generalize P[k]'(by rw [HN.out]; exact hkn) = p at *
      have zA := sL_size (wireTo (P.take k))
      have zD := sL_size p
      have zx : (sL [BitVec.ofNat 8 p.length]).size = 1 := sL_size _
      have hJ : Hid (sL (wireTo (P.take k)) ++ sL [BitVec.ofNat 8 p.length] ++ sL p = sL (wireTo (P.take (k + 1)))) := by rw [hsn.out, sL_app, sL_app, List.append_assoc]; exact rfl
      have hx : n8 (BitVec.ofNat 8 p.length) = (p.length : Int) := by rw [n8_nat, BitVec.toNat_ofNat]; omega
      have CVL : Hid (∀ w2 w3 : World, Below (w2.alloc (.cells #[.int .u8 (p.length : Int)] 5)).heap.size (w2.alloc (.cells #[.int .u8 (p.length : Int)] 5)) w3 → (convert 29 9 (.slice (some ⟨w2.heap.size, 0, none⟩) 1 1)).run Tryd.prog w3 = .ok (.string (sL [BitVec.ofNat 8 p.length])) w3) := by
        intro w2 w3 hb
        have h1 := conv_str (fun _ => BitVec.ofNat 8 p.length) w2.heap.size 0 1 1 w3 (fun i hi => by
          obtain rfl : i = 0 := by omega
          rw [hx]
          have h2 := (box_new w2 (.int .u8 (p.length : Int)) 5).1
          exact (hb.cell (p := ⟨w2.heap.size, 0, none⟩) (by simp)).trans h2)
        exact h1
      generalize sL [BitVec.ofNat 8 p.length] = XS at *
      generalize sL (wireTo (P.take k)) = AS at *
      generalize sL p = D at *
      obtain ⟨m, hm⟩ : ∃ m, p.length = m := ⟨_, rfl⟩
      rw [hm] at hpl zD CVL
      clear hm hx
      have hb8 : (m : Int) ≤ 255 := by omega
      have hs1 : ¬ 9223372036854775807 < (wireTo (P.take k)).length + 1 := by omega
      have hs2 : ¬ 9223372036854775807 < (wireTo (P.take k)).length + 1 + m := by omega
      generalize (wireTo (P.take k)).length = NA at *
      have PC := Lib.hid (fun (w2 : World) (hb : Below wr.heap.size wr w2) => (hb.cell (p := ⟨a, k, none⟩) (Nat.lt_of_lt_of_le halt HBe.out.size)).trans hcr)
      clear hcr
      go_upto_region 8 with fail
      refine region_anyM mixedOrders ?_
      refine anyM_take (i := 0) (oi := ⟨some 22, _, _, _, _, _⟩) (v := .string AS) rfl (by kernel_rfl) (by kernel_rfl) (by kernel_rfl) (fun _ _ _ h => h) (.inl ⟨by rfl, fun w2 hw2 => ?_⟩) ?_
      · clear hw2
        go_simp
      simp only [Act.put, List.setIfInBounds_toArray, List.set_cons_succ, List.set_cons_zero]
      refine anyM_take (i := 1) (oi := ⟨some 23, _, _, _, _, _⟩) (v := .slice (some ⟨a, 0, none⟩) n cap) rfl (by kernel_rfl) (by kernel_rfl) (by kernel_rfl) (fun _ _ _ h => h) (.inl ⟨by rfl, fun w2 hw2 => ?_⟩) ?_
      · clear hw2
        go_simp
      simp only [Act.put, List.setIfInBounds_toArray, List.set_cons_succ, List.set_cons_zero]
      refine anyM_take (i := 2) (oi := ⟨some 24, _, _, _, _, _⟩) (v := .int .i64 (k : Int)) rfl (by kernel_rfl) (by kernel_rfl) (by kernel_rfl) (fun _ _ _ h => h) (.inl ⟨by rfl, fun w2 hw2 => ?_⟩) ?_
      · clear hw2
        go_simp
      simp only [Act.put, List.setIfInBounds_toArray, List.set_cons_succ, List.set_cons_zero]
      refine anyM_take (i := 3) (oi := ⟨some 25, _, _, _, _, _⟩) (v := .pointer (some ⟨a, k, none⟩)) rfl (by kernel_rfl) (by kernel_rfl) (by kernel_rfl) (fun _ _ _ h => h) (.inl ⟨by rfl, fun w2 hw2 => ?_⟩) ?_
      · clear hw2
        go_simp
      simp only [Act.put, List.setIfInBounds_toArray, List.set_cons_succ, List.set_cons_zero]
      refine anyM_take (i := 4) (oi := ⟨some 26, _, _, _, _, _⟩) (v := .string D) rfl (by kernel_rfl) (by kernel_rfl) (by kernel_rfl) (fun _ _ _ h => h) (.inl ⟨by rfl, fun w2 hw2 => ?_⟩) ?_
      · have pc := PC.out w2 (ext_below hw2 (Below.refl _ _).drew (Nat.le_refl _))
        clear hw2
        go_simp
      simp only [Act.put, List.setIfInBounds_toArray, List.set_cons_succ, List.set_cons_zero]
      refine anyM_take (i := 5) (oi := ⟨some 27, _, _, _, _, _⟩) (v := .int .i64 (m : Int)) rfl (by kernel_rfl) (by kernel_rfl) (by kernel_rfl) (fun _ _ _ h => h) (.inl ⟨by rfl, fun w2 hw2 => ?_⟩) ?_
      · clear hw2
        go_simp
      simp only [Act.put, List.setIfInBounds_toArray, List.set_cons_succ, List.set_cons_zero]
      refine anyM_take (i := 6) (oi := ⟨some 28, _, _, _, _, _⟩) (v := .int .u8 (m : Int)) rfl (by kernel_rfl) (by kernel_rfl) (by kernel_rfl) (fun _ _ _ h => h) (.inl ⟨by rfl, fun w2 hw2 => ?_⟩) ?_
      · clear hw2
        go_simp
        rw [IntKind.wrap_u8]
        omega
      simp only [Act.put, List.setIfInBounds_toArray, List.set_cons_succ, List.set_cons_zero]
      refine anyM_take (i := 10) (oi := ⟨some 32, _, _, _, _, _⟩) (v := .slice (some ⟨a, 0, none⟩) n cap) rfl (by kernel_rfl) (by kernel_rfl) (by kernel_rfl) (fun _ _ _ h => h) (.inl ⟨by rfl, fun w2 hw2 => ?_⟩) ?_
      · clear hw2
        go_simp
      simp only [Act.put, List.setIfInBounds_toArray, List.set_cons_succ, List.set_cons_zero]
      refine anyM_take (i := 11) (oi := ⟨some 33, _, _, _, _, _⟩) (v := .int .i64 (k : Int)) rfl (by kernel_rfl) (by kernel_rfl) (by kernel_rfl) (fun _ _ _ h => h) (.inl ⟨by rfl, fun w2 hw2 => ?_⟩) ?_
      · clear hw2
        go_simp
      simp only [Act.put, List.setIfInBounds_toArray, List.set_cons_succ, List.set_cons_zero]
      refine anyM_take (i := 12) (oi := ⟨some 34, _, _, _, _, _⟩) (v := .pointer (some ⟨a, k, none⟩)) rfl (by kernel_rfl) (by kernel_rfl) (by kernel_rfl) (fun _ _ _ h => h) (.inl ⟨by rfl, fun w2 hw2 => ?_⟩) ?_
      · clear hw2
        go_simp
      simp only [Act.put, List.setIfInBounds_toArray, List.set_cons_succ, List.set_cons_zero]
      refine anyM_take (i := 13) (oi := ⟨some 35, _, _, _, _, _⟩) (v := .string D) rfl (by kernel_rfl) (by kernel_rfl) (by kernel_rfl) (fun _ _ _ h => h) (.inl ⟨by rfl, fun w2 hw2 => ?_⟩) ?_
      · have pc := PC.out w2 (ext_below hw2 (Below.refl _ _).drew (Nat.le_refl _))
        clear hw2
        go_simp
      simp only [Act.put, List.setIfInBounds_toArray, List.set_cons_succ, List.set_cons_zero]
      refine anyM_only (i := 7) (o := ⟨some 29, _, _, _, _, _⟩) (by kernel_rfl) rfl (by rfl) (fun w2 hw2 => ⟨.slice (some ⟨w2.heap.size, 0, none⟩) 1 1, w2.alloc (.cells #[.int .u8 (m : Int)] 5), by go_simp, (Below.refl _ _).alloc (Nat.le_refl _) _, ?_⟩)
      simp only [Act.put, List.setIfInBounds_toArray, List.set_cons_succ, List.set_cons_zero]
      have b2 := ext_below hw2 (Below.refl wr.heap.size wr).drew (Nat.le_refl _)
      have b3 := Lib.hid (b2.alloc b2.size (.cells #[.int .u8 (m : Int)] 5))
      have CV3 := Lib.hid (CVL.out w2)
      clear hw2 b2 CVL
      generalize w2.heap.size = Q at *
      generalize w2.alloc _ = w3 at *
      refine anyM_take (i := 8) (oi := ⟨some 30, _, _, _, _, _⟩) (v := .string XS) rfl (by kernel_rfl) (by kernel_rfl) (by kernel_rfl) (fun _ _ _ h => h) (.inl ⟨by rfl, fun w2 hw2 => ?_⟩) ?_
      · have cv := CV3.out w2 hw2
        clear hw2
        go_simp
      simp only [Act.put, List.setIfInBounds_toArray, List.set_cons_succ, List.set_cons_zero]
      refine anyM_take (i := 9) (oi := ⟨some 31, _, _, _, _, _⟩) (v := .string (AS ++ XS)) rfl (by kernel_rfl) (by kernel_rfl) (by kernel_rfl) (fun _ _ _ h => h) (.inl ⟨by rfl, fun w2 hw2 => ?_⟩) ?_
      · clear hw2
        go_simp
      simp only [Act.put, List.setIfInBounds_toArray, List.set_cons_succ, List.set_cons_zero]
      refine anyM_take (i := 14) (oi := ⟨some 36, _, _, _, _, _⟩) (v := .string (AS ++ XS ++ D)) rfl (by kernel_rfl) (by kernel_rfl) (by kernel_rfl) (fun _ _ _ h => h) (.inl ⟨by rfl, fun w2 hw2 => ?_⟩) ?_
      · clear hw2
        go_simp
      simp only [Act.put, List.setIfInBounds_toArray, List.set_cons_succ, List.set_cons_zero]
      refine anyM_take (i := 15) (oi := ⟨some 6, _, _, _, _, _⟩) (v := .string (AS ++ XS ++ D)) rfl (by kernel_rfl) (by kernel_rfl) (by kernel_rfl) (fun _ _ _ h => h) (.inl ⟨by rfl, fun w2 hw2 => ?_⟩) ?_
      · clear hw2
        go_simp
      simp only [Act.put, List.setIfInBounds_toArray, List.set_cons_succ, List.set_cons_zero]
      refine anyM_done (by kernel_rfl) (fun w7 hw7 => ?_)
      have b7 := Lib.hid (ext_below hw7 b3.out b3.out.size)
      clear hw7
      go_wp2_with fail
      go_roundw
      case rel => exact ⟨k + 1, by omega, by rw [Int.natCast_add]; rfl, by rw [hJ.out], HBe.out.trans (b7.out.mono HBe.out.size)⟩
      case measure => simp only [intOf]; omega
    · have hkn' : ¬ (k : Int) < (n : Int) := by omega
      have hall : P.take k = P := List.take_of_length_le (by rw [HN.out]; omega)
      have hwl := HL.out k
      rw [hall] at hwl ⊢
      have hlen := HN.out
      have hw2 : (wireTo P).length ≤ 100000 := by omega
      have zA := sL_size (wireTo P)
      have hJ : Hid (sL (wireTo P) ++ ⟨#[0]⟩ = sL WF) := by rw [HW.out, ← sL_app]; exact rfl
      clear hwl hall hlen
      generalize (wireTo P).length = N at *
      generalize sL (wireTo P) = AS at *
      go_wp2_with fail
      go_ret2
      exact ⟨by rw [← hJ.out]; rfl, BB.out.trans (HBe.out.mono BB.out.size)⟩
end Go.Proofs.YtddpfbeclmgndaaDoor
