/-
  name: Wire.
-/
import Derived.Test.YtddpfbeclmgndaaDoorNmH
namespace Go.Proofs.YtddpfbeclmgndaaDoor
open Go Go.RowKit Go.BigFrame
set_option linter.unusedSimpArgs false
set_option linter.unusedVariables false
/-- The row of texts that is handed out. -/
def RowS (B : Nat) (v : Value) (ps : List (List (BitVec 8))) (w : World) : Prop := ∃ ad, v = .slice ad ps.length ps.length ∧ (ps = [] ∨ ∃ a, ad = some ⟨a, 0, none⟩ ∧ B ≤ a ∧ w.heap[a]? = some (.cells (strCells ps) 9 (0, 0)))
theorem RowS.later {B : Nat} {v : Value} {ps : List (List (BitVec 8))} {w w' : World} (h : RowS B v ps w) (hb : Below w.heap.size w w') : RowS B v ps w' := by
  obtain ⟨ad, hv, h⟩ := h
  refine ⟨ad, hv, h.imp id fun ⟨a, e, hB, hr⟩ => ⟨a, e, hB, ?_⟩⟩
  rw [hb.block a (Array.getElem?_eq_some_iff.1 hr).1]
  exact hr
theorem strCells_at (ps : List (List (BitVec 8))) (k : Nat) (h : k < ps.length) : (strCells ps)[k]? = some (.string (sL (ps[k]))) := by
  simp [strCells, h]
theorem RowS.at {B : Nat} {v : Value} {ps : List (List (BitVec 8))} {w : World} (h : RowS B v ps w) (k : Nat) (hk : k < ps.length) : ∃ a, v = .slice (some ⟨a, 0, none⟩) ps.length ps.length ∧ w.cell? ⟨a, k, none⟩ = some (.string (sL ps[k])) ∧ B ≤ a ∧ a < w.heap.size := by
  obtain ⟨ad, hv, h⟩ := h
  rcases h with h | ⟨a, rfl, hB, hr⟩
  · rw [h] at hk; simp at hk
  · refine ⟨a, hv, ?_, hB, (Array.getElem?_eq_some_iff.1 hr).1⟩
    simp only [World.cell?, hr]
    exact strCells_at ps k hk
/-- What Labels answers. -/
def LabPost (B : Nat) (L : List (BitVec 8)) (v : Value) (c : Int) (w : World) : Prop := (rightB L = false ∧ v = .slice none 0 0 ∧ c = 14) ∨ (rightB L = true ∧ c = 0 ∧ RowS B v (labF L) w)
theorem labels_any (L : List (BitVec 8)) (w : World) (hL : L.length ≤ 4611686018427387904) : Calls Tryd.prog 12 #[.string (sL L)] w fun e w' =>
    ∃ v c, e = .returned (.tuple #[v, .int .i64 c]) ∧ LabPost w.heap.size L v c w' ∧ Below w.heap.size w w' := by
  cases hr : rightB L with
  | false =>
    refine (labels_bad L w hL hr).mono ?_
    rintro e w' ⟨rfl, hb⟩
    exact ⟨_, _, rfl, .inl ⟨hr, rfl, rfl⟩, hb⟩
  | true =>
    by_cases hd : L = [46#8]
    · subst hd
      refine (labels_dot w).mono ?_
      rintro e w' ⟨rfl, hb⟩
      exact ⟨_, _, rfl, .inr ⟨rfl, rfl, none, rfl, .inl rfl⟩, hb⟩
    · refine (labels_ok L w hr hd).mono ?_
      rintro e w' ⟨a, rfl, hrow, ha, hb⟩
      exact ⟨_, _, rfl, .inr ⟨hr, rfl, _, rfl, .inr ⟨a, rfl, ha, hrow⟩⟩, hb⟩
theorem part_le {p : List (BitVec 8)} (h : isPartB p = true) : p.length ≤ 63 := by
  unfold isPartB at h
  simp only [Bool.and_eq_true, decide_eq_true_eq] at h
  exact h.1.2
theorem lab_part {L : List (BitVec 8)} (h : rightB L = true) : ∀ p ∈ labF L, isPartB p = true := by
  unfold labF
  split
  · intro p hp; cases hp
  · rename_i hd
    unfold rightB at h
    rw [decide_eq_false hd, Bool.false_or, Bool.and_eq_true] at h
    exact List.all_eq_true.1 h.2
theorem lab_le {L : List (BitVec 8)} (h : rightB L = true) : (labF L).length ≤ 255 := by
  have := right_le h
  unfold labF
  split
  · simp
  · have h1 := split_le (trimF L [46#8])
    have h2 := trim_le L [46#8]
    omega
theorem wireTo_le (ps : List (List (BitVec 8))) (h : ∀ p ∈ ps, p.length ≤ 63) : (wireTo ps).length ≤ 64 * ps.length := by
  induction ps with
  | nil => simp [wireTo]
  | cons p ps ih =>
    have h1 := ih fun q hq => h q (List.mem_cons_of_mem _ hq)
    have h2 := h p (List.mem_cons_self ..)
    unfold wireTo at h1 ⊢
    rw [List.map_cons, List.flatten_cons, List.length_append, List.length_cons]
    simp only [partF, List.length_cons]
    omega
set_option maxHeartbeats 4000000 in
theorem wire_bad (L : List (BitVec 8)) (w : World) (hL : L.length ≤ 4611686018427387904) (hr : rightB L = false) : Calls Tryd.prog 14 #[.string (sL L)] w fun e w' =>
    e = .returned (.tuple #[.slice none 0 0, .int .i64 14]) ∧ Below w.heap.size w w' := by
  have HB := Lib.hid (fun w => labels_bad L w hL hr)
  generalize sL L = S at *
  go_enter Tryd.func14, Tryd.ntmps14
  go_wp2_with (go_at_call 12; refine (HB.out _).mono ?_; rintro e w1 ⟨rfl, B1⟩)
  go_ret2
  exact ⟨rfl, B1⟩
set_option maxHeartbeats 4000000 in
set_option maxRecDepth 100000 in
theorem wire_ok (L : List (BitVec 8)) (w : World) (hr : rightB L = true) : Calls Tryd.prog 14 #[.string (sL L)] w fun e w' =>
    ∃ v, e = .returned (.tuple #[v, .int .i64 0]) ∧ OwnL w.heap.size v (wireF L) w' ∧ Below w.heap.size w w' := by
  have hl := right_le hr
  have HB := Lib.hid (fun w => labels_any L w (by omega))
  have hps := lab_part hr
  have hn := lab_le hr
  have HW : Hid (wireF L = wireTo (labF L) ++ [0#8]) := rfl
  have HR := Lib.hid hr
  have HP : Hid (∀ B v c w, LabPost B L v c w → c = 0 ∧ RowS B v (labF L) w) := by
    intro B v c w h
    rcases h with h | h
    · rw [HR.out] at h; cases h.1
    · exact ⟨h.2.1, h.2.2⟩
  generalize wireF L = WF at *
  generalize labF L = P at *
  generalize sL L = S at *
  obtain ⟨n, hN⟩ : ∃ n, P.length = n := ⟨_, rfl⟩
  rw [hN] at hn
  have HL := Lib.hid (fun k => wireTo_le (P.take k) (fun p hp => part_le (hps p (List.mem_of_mem_take hp))))
  have HQ := Lib.hid hps
  have HN := Lib.hid hN
  clear hps hN
  go_enter Tryd.func14, Tryd.ntmps14
  go_upto_region 2 with (go_at_call 12; refine (HB.out _).mono ?_; rintro e w1 ⟨v, c, rfl, hp, B1⟩; obtain ⟨rfl, R1⟩ := HP.out _ _ _ _ hp; clear hp)
  have R1' := R1
  obtain ⟨ad, rfl, hrow⟩ := R1
  rw [HN.out] at R1' ⊢
  have RR := Lib.hid R1'
  have BB := Lib.hid B1
  clear R1' hrow B1
  go_wp2_with fail
  go_loopw [6, 19] (fun s6 s19 wr => ∃ k : Nat, k ≤ n ∧ s19 = .int .i64 (k : Int) ∧ Hid (OwnL w1.heap.size s6 (wireTo (P.take k)) wr) ∧ Hid (Below w1.heap.size w1 wr)) (fun _ s19 _ => n - (intOf s19).toNat)
  case atStart => exact ⟨0, by omega, rfl, OwnL.nil _ _ (Nat.le_refl _), Below.refl _ _⟩
  case round =>
    obtain ⟨k, hk, rfl, HO, HBe⟩ := hrel
    by_cases hkn : k < n
    · have hkn' : (k : Int) < (n : Int) := by omega
      obtain ⟨a, hv, hc, hBa, halt⟩ := RR.out.at k (by rw [HN.out]; exact hkn)
      rw [HN.out] at hv
      injection hv with hv
      subst hv
      have hcr := (HBe.out.cell (p := ⟨a, k, none⟩) halt).trans hc
      have hpl : (P[k]'(by rw [HN.out]; exact hkn)).length ≤ 255 := by have := part_le (HQ.out _ (List.getElem_mem (by rw [HN.out]; exact hkn))); omega
      have htl : (P.take k).length ≤ k := by rw [List.length_take]; omega
      have hwl := HL.out k
      have AP := Lib.hid (appendPart_any (P[k]'(by rw [HN.out]; exact hkn)) wr HO.out hpl (by omega))
      have hsn : Hid (wireTo (P.take (k + 1)) = wireTo (P.take k) ++ partF (P[k]'(by rw [HN.out]; exact hkn))) := by
        rw [← wireTo_snoc]
        congr 1
        exact (List.take_append_getElem (by rw [HN.out]; exact hkn)).symm
      clear hc hpl htl hwl
      generalize sL (P[k]'(by rw [HN.out]; exact hkn)) = D at *
      go_wp2_with (go_at_call 32; refine AP.out.mono ?_; rintro e w2 ⟨v2, rfl, ho2, hg2⟩)
      go_roundw
      case rel => exact ⟨k + 1, by omega, by rw [Int.natCast_add]; rfl, by rw [hsn.out]; exact ho2, HBe.out.trans (hg2.below HO.out)⟩
      case measure => simp only [intOf]; omega
    · have hkn' : ¬ (k : Int) < (n : Int) := by omega
      have hall : P.take k = P := List.take_of_length_le (by rw [HN.out]; omega)
      have hwl := HL.out k
      rw [hall] at HO hwl
      have O : Hid (Own w1.heap.size u6 (wireTo P).length (bx (wireTo P)) wr) := HO.out
      have hlen := HN.out
      have hw2 : (wireTo P).length ≤ 100000 := by omega
      clear hwl hall hlen
      have s1 := src_one_new wr 0#8
      have e0 : n8 0#8 = 0 := by rw [n8_nat]; rfl
      rw [e0] at s1
      have S1 := Lib.hid s1
      clear s1 e0
      go_wp2_with (first
        | (refine wpList_append_bytes (o := ⟨some 29, _, _, _, _, _⟩) rfl _ _ 29 rfl rfl rfl (O.out.alloc _) S1.out (by omega) ?_; intro v2 w2 ho2 hg2)
        | fail)
      go_ret2
      refine ⟨v2, rfl, ?_, ?_⟩
      · rw [HW.out]
        have ho3 := OwnL.join (C := [0#8]) ho2 rfl (fun i hi => by obtain rfl : i = 0 := by omega
                                                                   simp [bx])
        exact ⟨ho3.row.mono BB.out.size, by have := BB.out.size; have := ho3.base; omega⟩
      · exact BB.out.trans ((HBe.out.trans (((Below.refl _ wr).alloc (Nat.le_refl _) _).mono HBe.out.size |>.trans (hg2.below (O.out.alloc _)))).mono BB.out.size)
end Go.Proofs.YtddpfbeclmgndaaDoor
