/-
  name: named.
-/
import Derived.Test.YtddpfbeclmgndaaDoorNmL
namespace Go.Proofs.YtddpfbeclmgndaaDoor
open Go Go.RowKit Go.BigFrame
set_option linter.unusedSimpArgs false
set_option linter.unusedVariables false
theorem OwnL.slice {B : Nat} {v : Value} {L : List (BitVec 8)} {w : World} (h : OwnL B v L w) (hn : L ≠ []) : ∃ g cap, v = .slice (some ⟨g, 0, none⟩) L.length cap ∧ B ≤ g ∧ g < w.heap.size ∧ ∀ i, i < L.length → w.cell? ⟨g, i, none⟩ = some (.int .u8 (n8 (bx L i))) := by
  have hl := List.length_pos_iff.2 hn
  obtain ⟨g, cap, hv, h1, h2, h3, h4, h5⟩ := own_slice hl (Own.row h)
  exact ⟨g, cap, hv, h3, h4, fun i hi => h5 i hi⟩
theorem OwnL.conv {B : Nat} {v : Value} {L : List (BitVec 8)} {w w' : World} (h : OwnL B v L w) (hn : L ≠ []) (hb : Below w.heap.size w w') : (convert 29 9 v).run Tryd.prog w' = .ok (.string (sL L)) w' := by
  obtain ⟨g, cap, rfl, hB, hg, hc⟩ := h.slice hn
  rw [sL_of]
  exact conv_str _ _ _ _ _ _ fun i hi => by rw [Nat.zero_add]; exact (hb.cell (p := ⟨g, i, none⟩) hg).trans (hc i hi)
set_option maxHeartbeats 4000000 in
set_option maxRecDepth 100000 in
theorem named_any (w : World) : Calls Tryd.prog 10 #[] w fun e w' => e = .returned (.bool true) ∧ Below w.heap.size w w' := by
  have W1 := Lib.hid (fun w => wire_ok [97#8, 46#8, 98#8, 99#8, 46#8] w (by decide))
  have W2 := Lib.hid (fun w => wire_ok [46#8] w (by decide))
  have LS := Lib.hid (fun w => less_any [122#8, 46#8, 97#8, 46#8] [97#8, 46#8, 98#8, 46#8] w (by decide) (by decide))
  have e1 : sL [97#8, 46#8, 98#8, 99#8, 46#8] = ⟨#[97, 46, 98, 99, 46]⟩ := rfl
  have e2 : sL [46#8] = ⟨#[46]⟩ := rfl
  have e3 : sL [122#8, 46#8, 97#8, 46#8] = ⟨#[122, 46, 97, 46]⟩ := rfl
  have e4 : sL [97#8, 46#8, 98#8, 46#8] = ⟨#[97, 46, 98, 46]⟩ := rfl
  have e5 : lessF [122#8, 46#8, 97#8, 46#8] [97#8, 46#8, 98#8, 46#8] = true := by decide
  have e6 : wireF [97#8, 46#8, 98#8, 99#8, 46#8] = [1#8, 97#8, 2#8, 98#8, 99#8, 0#8] := by decide
  have e7 : wireF [46#8] = [0#8] := by decide
  rw [e1, e6] at W1
  rw [e2, e7] at W2
  rw [e3, e4, e5] at LS
  clear e1 e2 e3 e4 e5 e6 e7
  go_enter Tryd.func10, Tryd.ntmps10
  go_upto_region 3 with (first | (go_at_call 14; refine (W1.out _).mono ?_; clear W1; rintro e w1 ⟨v1, rfl, O1, B1⟩) | (go_at_call 14; refine (W2.out _).mono ?_; clear W2; rintro e w2 ⟨v2, rfl, O2, B2⟩))
  have c1 := O1.conv (by simp) B2
  have c2 := O2.conv (by simp) (Below.refl _ _)
  obtain ⟨g1, p1, rfl, -⟩ := O1.slice (by simp)
  obtain ⟨g2, p2, rfl, -⟩ := O2.slice (by simp)
  have E1 : ((sL [1#8, 97#8, 2#8, 98#8, 99#8, 0#8]).toList == [1, 97, 2, 98, 99, 0]) = true := by rw [sL_list]; rfl
  have E2 : ((sL [0#8]).toList == [0]) = true := by rw [sL_list]; rfl
  have BB : Hid (Below w.heap.size w w2) := B1.trans (B2.mono B1.size)
  clear O1 O2 B1 B2
  generalize [1#8, 97#8, 2#8, 98#8, 99#8, 0#8].length = N1 at *
  generalize [0#8].length = N2 at *
  generalize sL [1#8, 97#8, 2#8, 98#8, 99#8, 0#8] = X at *
  generalize sL [0#8] = Y at *
  go_wp2_with (go_at_call 20; refine (LS.out _).mono ?_; rintro e w3 ⟨rfl, B3⟩)
  all_goals go_ret
  all_goals exact ⟨rfl, BB.out.trans (B3.mono BB.out.size)⟩
end Go.Proofs.YtddpfbeclmgndaaDoor
