/-
  FlowPurses holds: in every row of calls a purse of flow answers as the document says; a refused call changes nothing. No conditions.
-/
import Derived.Test.YtabclpohcckjhaaRows
import Derived.Test.YtabclpohcckjhaaFlowD
import Derived.WalkKit
import Derived.ProofKit
import Derived.OpenShut
import Derived.ShutString
import Derived.ChangeOld
import Derived.Below
import Derived.Deep.DeepCutAuto
import Derived.Deep.Upon
import Derived.Deep.AppendSrc
import Derived.SizedLaws
namespace Go.Proofs.Ytabclpohcckjhaa.flowPurses
open Go Go.ChangeShapes Go.WideShapes Go.ChangeAt Go.RowKit Go.BigFrame
set_option linter.unusedVariables false
theorem own : ownKnob Try.prog.godebug = none := by kernel_rfl
theorem laidOut : laidOutB Try.prog = true := by kernel_rfl
set_option maxHeartbeats 40000000 in
set_option maxRecDepth 100000 in
theorem law_any (W : Int) (a : Option Addr) (n c : Nat) (f g : Nat → Int) (w : World) (h : DealsIn w a n f g) (hn : n ≤ c) (hc : c ≤ maxLen) :
    Calls Try.prog 3 #[.int .i64 W, .slice a n c] w fun e w' => e = .returned (.bool true) ∧ Below w.heap.size w w' := by
  have hn63 : n ≤ 9223372036854775807 := by unfold maxLen at hc; omega
  go_enter Try.func3, Try.ntmps3
  by_cases hW : W < 1 ∨ 65536 < W
  · have hW2 : W < 1 ∨ (¬ W < 1 ∧ 65536 < W) := by omega
    rcases hW2 with hW2 | ⟨hW2, hW3⟩
    all_goals
      go_wp2_with (first
        | (go_at_call 8; refine (empty_any _).mono ?_; rintro e w' ⟨rfl, rfl⟩)
        | (go_at_call 9; refine (allow_nil _ _).mono ?_; rintro e w' ⟨rfl, rfl⟩)
        | (go_at_call 10; refine (grant_nil _).mono ?_; rintro e w' ⟨rfl, rfl⟩)
        | (go_at_call 11; refine (counts_any _).mono ?_; rintro e w1 ⟨rfl, hb1⟩)
        | (go_at_call 12; refine (left_nil _).mono ?_; rintro e w' ⟨rfl, rfl⟩)
        | (go_at_call 13; refine (take_nil _ _).mono ?_; rintro e w' ⟨rfl, rfl⟩)
        | (go_at_call 14; refine (spend_nil _ _).mono ?_; rintro e w' ⟨rfl, rfl⟩)
        | (go_at_call 15; refine (newPurse_bad W hW _).mono ?_; rintro e w' ⟨rfl, rfl⟩))
      go_ret
      exact ⟨rfl, hb1⟩
  · have hW1 : 1 ≤ W := by omega
    have hW2 : W ≤ 65536 := by omega
    clear hW
    go_wp2_with (first
      | (go_at_call 8; refine (empty_any _).mono ?_; rintro e w' ⟨rfl, rfl⟩)
        | (go_at_call 9; refine (allow_nil _ _).mono ?_; rintro e w' ⟨rfl, rfl⟩)
        | (go_at_call 10; refine (grant_nil _).mono ?_; rintro e w' ⟨rfl, rfl⟩)
        | (go_at_call 11; refine (counts_any _).mono ?_; rintro e w1 ⟨rfl, hb1⟩)
        | (go_at_call 12; refine (left_nil _).mono ?_; rintro e w' ⟨rfl, rfl⟩)
        | (go_at_call 13; refine (take_nil _ _).mono ?_; rintro e w' ⟨rfl, rfl⟩)
        | (go_at_call 14; refine (spend_nil _ _).mono ?_; rintro e w' ⟨rfl, rfl⟩))
    refine (newPurse_ok W hW1 hW2 _).mono ?_
    rintro e w2 ⟨rfl, rfl⟩
    have hq : w.heap.size ≤ w1.heap.size := hb1.size
    have rP : ((w1.alloc (.cells (purseC W W 0 0 0 0) PT)).alloc (.cells (purseC W W 0 0 0 0) RT)).heap[w1.heap.size]? = some (.cells (purseC W W 0 0 0 0) PT (0, 0)) := heap_alloc2_old _ _ _
    have rR : ((w1.alloc (.cells (purseC W W 0 0 0 0) PT)).alloc (.cells (purseC W W 0 0 0 0) RT)).heap[w1.heap.size + 1]? = some (.cells (purseC W W 0 0 0 0) RT (0, 0)) := heap_alloc2_new _ _ _
    have hb2 : Below w.heap.size w ((w1.alloc (.cells (purseC W W 0 0 0 0) PT)).alloc (.cells (purseC W W 0 0 0 0) RT)) := (hb1.alloc hq _).alloc (by simp; omega) _
    go_wp2_with fail
    obtain ⟨q, hq0⟩ : ∃ q, w1.heap.size = q := ⟨_, rfl⟩
    rw [hq0] at rP rR
    have hqq : w.heap.size ≤ q := by omega
    have HD := Lib.hid h.2
    clear h
    simp only [hq0]
    go_loopw [10] (fun s wr => ∃ (i : Nat) (L C U M S : Int), i ≤ n ∧ i ≤ 80 ∧ s = .int .i64 (i : Int) ∧ wr.heap[q]? = some (.cells (purseC W L C U M S) PT (0, 0)) ∧ wr.heap[q + 1]? = some (.cells (purseC W L C U M S) RT (0, 0)) ∧ Fits W L C U M S ∧ L ≤ 65536 * ((i : Int) + 1) ∧ Below w.heap.size w wr) (fun s _ => n - (intOf s).toNat)
    case atStart => exact ⟨0, W, 0, 0, 0, 0, by omega, by omega, rfl, rP, rR, ⟨by omega, by omega, by omega, by omega, by omega, by omega, by omega, by omega, by omega⟩, by omega, hb2⟩
    case round =>
      clear rP rR hb2 hb1
      obtain ⟨i, L, C, U, M, S, hi, hi80, rfl, rP, rR, F, hL, bel⟩ := hrel
      by_cases hlt : i < n
      · have hltI : (i : Int) < (n : Int) := by omega
        by_cases h80 : i < 80
        · have h80I : (i : Int) < 80 := by omega
          obtain ⟨hg, h0 | ⟨b, off, rfl, hbl, hcell⟩⟩ := HD.out
          · omega
          have kf := (bel.cell (p := ⟨b, off + i * 2, none⟩) hbl).trans (hcell i hlt).1
          have kg := (bel.cell (p := ⟨b, off + i * 2 + 1, none⟩) hbl).trans (hcell i hlt).2
          have hgi := hg i
          clear hg hcell
          generalize g i = N at *
          by_cases hf0 : f i ≠ 1 ∧ f i ≠ 2 ∧ f i ≠ 3 ∧ f i ≠ 4 ∧ f i ≠ 5
          · obtain ⟨n1, n2, n3, n4, n5⟩ := hf0
            generalize f i = X at *
            have m1 : (X == 1) = false := by simp [n1]
            have m2 : (X == 2) = false := by simp [n2]
            have m3 : (X == 3) = false := by simp [n3]
            have m4 : (X == 4) = false := by simp [n4]
            have m5 : (X == 5) = false := by simp [n5]
            have rP' := rP; have rR' := rR; have F' := F; have bel' := bel
            obtain ⟨z0, z1, z2, z3, z4, z5, z6, z7, z8⟩ := id F
            go_wp2_with fail
            have hsub : IntKind.i64.wrap (M - S) = M - S := IntWalk.i64_in _ ⟨by omega, by omega⟩
            refine region_class1 16 (fun w' => w'.heap = (wr).heap ∧ Below w.heap.size (wr) w') mixedOrders (by kernel_rfl) ⟨rfl, (Below.refl _ _).drew⟩ rfl ?_
            refine wpQuiet_take (by rfl) (fun K hK => ⟨.int .i64 (0), fun w' hw' => ?_, hK _ ?_⟩)
            · clear hw'; go_simp
            clear hK K
            simp only [Act.put, List.setIfInBounds_toArray, List.set_cons_succ, List.set_cons_zero]
            refine wpQuiet_take (by rfl) (fun K hK => ⟨.int .i64 (0), fun w' hw' => ?_, hK _ ?_⟩)
            · clear hw'; go_simp
            clear hK K
            simp only [Act.put, List.setIfInBounds_toArray, List.set_cons_succ, List.set_cons_zero]
            refine wpQuiet_take (by rfl) (fun K hK => ⟨.bool false, fun w' hw' => ?_, hK _ ?_⟩)
            · clear hw'; go_simp
            clear hK K
            simp only [Act.put, List.setIfInBounds_toArray, List.set_cons_succ, List.set_cons_zero]
            refine wpQuiet_take (by rfl) (fun K hK => ⟨.bool false, fun w' hw' => ?_, hK _ ?_⟩)
            · clear hw'; go_simp
            clear hK K
            simp only [Act.put, List.setIfInBounds_toArray, List.set_cons_succ, List.set_cons_zero]
            refine wpQuiet_take (by rfl) (fun K hK => ⟨.pointer (some ⟨q, 0, none⟩), fun w' hw' => ?_, hK _ ?_⟩)
            · clear hw'; go_simp
            clear hK K
            simp only [Act.put, List.setIfInBounds_toArray, List.set_cons_succ, List.set_cons_zero]
            refine wpQuiet_take (by rfl) (fun K hK => ⟨.int .i64 (M - S), fun w' hw' => ?_, hK _ ?_⟩)
            · have hp : w'.heap[q]? = some (.cells (purseC W L C U M S) PT (0, 0)) := by rw [hw'.1]; exact rP'
              have hw2 := Lib.hid hw'
              clear hw'
              go_simp
              go_at_call 12
              refine (left_any q W L C U M S F' w' hp).mono ?_
              rintro e w3 ⟨rfl, k3, rfl⟩
              exact ⟨rfl, hw2.out.1, below_drewN hw2.out.2 _⟩
            clear hK K
            simp only [Act.put, List.setIfInBounds_toArray, List.set_cons_succ, List.set_cons_zero]
            refine wpQuiet_take (by rfl) (fun K hK => ⟨.pointer (some ⟨q + 1, 0, none⟩), fun w' hw' => ?_, hK _ ?_⟩)
            · clear hw'; go_simp
            clear hK K
            simp only [Act.put, List.setIfInBounds_toArray, List.set_cons_succ, List.set_cons_zero]
            refine wpQuiet_take (by rfl) (fun K hK => ⟨.pointer (some ⟨q + 1, 0, none⟩), fun w' hw' => ?_, hK _ ?_⟩)
            · clear hw'; go_simp
            clear hK K
            simp only [Act.put, List.setIfInBounds_toArray, List.set_cons_succ, List.set_cons_zero]
            refine wpQuiet_take (by rfl) (fun K hK => ⟨.pointer (some ⟨q + 1, 4, none⟩), fun w' hw' => ?_, hK _ ?_⟩)
            · clear hw'; go_simp
            clear hK K
            simp only [Act.put, List.setIfInBounds_toArray, List.set_cons_succ, List.set_cons_zero]
            refine wpQuiet_take (by rfl) (fun K hK => ⟨.int .i64 M, fun w' hw' => ?_, hK _ ?_⟩)
            · have hc : w'.cell? ⟨q + 1, 4, none⟩ = some (.int .i64 M) := (purse_cells (by rw [hw'.1]; exact rR')).2.2.2.2.1
              clear hw'; go_simp
            clear hK K
            simp only [Act.put, List.setIfInBounds_toArray, List.set_cons_succ, List.set_cons_zero]
            refine wpQuiet_take (by rfl) (fun K hK => ⟨.pointer (some ⟨q + 1, 0, none⟩), fun w' hw' => ?_, hK _ ?_⟩)
            · clear hw'; go_simp
            clear hK K
            simp only [Act.put, List.setIfInBounds_toArray, List.set_cons_succ, List.set_cons_zero]
            refine wpQuiet_take (by rfl) (fun K hK => ⟨.pointer (some ⟨q + 1, 0, none⟩), fun w' hw' => ?_, hK _ ?_⟩)
            · clear hw'; go_simp
            clear hK K
            simp only [Act.put, List.setIfInBounds_toArray, List.set_cons_succ, List.set_cons_zero]
            refine wpQuiet_take (by rfl) (fun K hK => ⟨.pointer (some ⟨q + 1, 5, none⟩), fun w' hw' => ?_, hK _ ?_⟩)
            · clear hw'; go_simp
            clear hK K
            simp only [Act.put, List.setIfInBounds_toArray, List.set_cons_succ, List.set_cons_zero]
            refine wpQuiet_take (by rfl) (fun K hK => ⟨.int .i64 S, fun w' hw' => ?_, hK _ ?_⟩)
            · have hc : w'.cell? ⟨q + 1, 5, none⟩ = some (.int .i64 S) := (purse_cells (by rw [hw'.1]; exact rR')).2.2.2.2.2
              clear hw'; go_simp
            clear hK K
            simp only [Act.put, List.setIfInBounds_toArray, List.set_cons_succ, List.set_cons_zero]
            refine wpQuiet_take (by rfl) (fun K hK => ⟨.int .i64 (M - S), fun w' hw' => ?_, hK _ ?_⟩)
            · clear hw'; go_simp
            clear hK K
            simp only [Act.put, List.setIfInBounds_toArray, List.set_cons_succ, List.set_cons_zero]
            refine wpQuiet_take (by rfl) (fun K hK => ⟨.bool false, fun w' hw' => ?_, hK _ ?_⟩)
            · clear hw'; go_simp
            clear hK K
            simp only [Act.put, List.setIfInBounds_toArray, List.set_cons_succ, List.set_cons_zero]
            refine wpQuiet_take0 ?_
            intro wz hz
            have rP' : wz.heap[q]? = some (.cells (purseC W L C U M S) PT (0, 0)) := by rw [hz.1]; exact rP'
            have rR' : wz.heap[q + 1]? = some (.cells (purseC W L C U M S) RT (0, 0)) := by rw [hz.1]; exact rR'
            have bel' := bel'.trans hz.2
            clear hz
            go_wp2_with fail
            go_roundw
            case rel => exact ⟨i + 1, L, C, U, M, S, by omega, by omega, by go_num, rP', rR', F', by have : ((i + 1 : Nat) : Int) = (i : Int) + 1 := rfl; omega, bel'⟩
            case measure => (simp [intOf] <;> omega)
          · obtain hf0 | hf0 | hf0 | hf0 | hf0 : f i = 1 ∨ f i = 2 ∨ f i = 3 ∨ f i = 4 ∨ f i = 5 := by omega
            · rw [hf0] at kf
              obtain ⟨z0, z1, z2, z3, z4, z5, z6, z7, z8⟩ := id F
              obtain ⟨X, hX⟩ : ∃ X, (if takeE L C N = 0 then C + N else C) = X := ⟨_, rfl⟩
              have hXb : C ≤ X ∧ X ≤ L := by rw [← hX]; unfold takeE; split <;> (try split) <;> omega
              have g1 := flow_take q W L C U M S N F
              have g2 := ref_take (q + 1) W L C U M S N F
              simp only [hX] at g1 g2
              obtain ⟨ee, hee⟩ : ∃ ee, takeE L C N = ee := ⟨_, rfl⟩
              simp only [hee] at g1 g2
              have G1 := Lib.hid g1
              have G2 := Lib.hid g2
              clear g1 g2 hX hee
              go_wp2_with (first
                | (go_at_call 13; refine (G1.out _ rP).mono ?_; rintro e w2 ⟨rfl, s2⟩; have rP2 := s2.row; have rR2 := s2.keep (by omega) rR)
                | (go_at_call 16; refine (G2.out _ rR2).mono ?_; rintro e w3 ⟨rfl, s3⟩; have rP' := s3.keep (by omega) rP2; have rR' := s3.row))
              have bel' := (bel.trans (s2.below _ hqq)).trans (s3.below _ (by omega))
              clear s2 s3 rP2 rR2 rP rR bel kf kg
              have F' : Fits W L X U M S := ⟨by omega, by omega, by omega, by omega, by omega, by omega, by omega, by omega, by omega⟩
              have hsub : IntKind.i64.wrap (M - S) = M - S := IntWalk.i64_in _ ⟨by omega, by omega⟩
              refine region_class1 16 (fun w' => w'.heap = (w3).heap ∧ Below w.heap.size (w3) w') mixedOrders (by kernel_rfl) ⟨rfl, (Below.refl _ _).drew⟩ rfl ?_
              refine wpQuiet_take (by rfl) (fun K hK => ⟨.int .i64 (ee), fun w' hw' => ?_, hK _ ?_⟩)
              · clear hw'; go_simp
              clear hK K
              simp only [Act.put, List.setIfInBounds_toArray, List.set_cons_succ, List.set_cons_zero]
              refine wpQuiet_take (by rfl) (fun K hK => ⟨.int .i64 (ee), fun w' hw' => ?_, hK _ ?_⟩)
              · clear hw'; go_simp
              clear hK K
              simp only [Act.put, List.setIfInBounds_toArray, List.set_cons_succ, List.set_cons_zero]
              refine wpQuiet_take (by rfl) (fun K hK => ⟨.bool false, fun w' hw' => ?_, hK _ ?_⟩)
              · clear hw'; go_simp
              clear hK K
              simp only [Act.put, List.setIfInBounds_toArray, List.set_cons_succ, List.set_cons_zero]
              refine wpQuiet_take (by rfl) (fun K hK => ⟨.bool false, fun w' hw' => ?_, hK _ ?_⟩)
              · clear hw'; go_simp
              clear hK K
              simp only [Act.put, List.setIfInBounds_toArray, List.set_cons_succ, List.set_cons_zero]
              refine wpQuiet_take (by rfl) (fun K hK => ⟨.pointer (some ⟨q, 0, none⟩), fun w' hw' => ?_, hK _ ?_⟩)
              · clear hw'; go_simp
              clear hK K
              simp only [Act.put, List.setIfInBounds_toArray, List.set_cons_succ, List.set_cons_zero]
              refine wpQuiet_take (by rfl) (fun K hK => ⟨.int .i64 (M - S), fun w' hw' => ?_, hK _ ?_⟩)
              · have hp : w'.heap[q]? = some (.cells (purseC W L X U M S) PT (0, 0)) := by rw [hw'.1]; exact rP'
                have hw2 := Lib.hid hw'
                clear hw'
                go_simp
                go_at_call 12
                refine (left_any q W L X U M S F' w' hp).mono ?_
                rintro e w3 ⟨rfl, k3, rfl⟩
                exact ⟨rfl, hw2.out.1, below_drewN hw2.out.2 _⟩
              clear hK K
              simp only [Act.put, List.setIfInBounds_toArray, List.set_cons_succ, List.set_cons_zero]
              refine wpQuiet_take (by rfl) (fun K hK => ⟨.pointer (some ⟨q + 1, 0, none⟩), fun w' hw' => ?_, hK _ ?_⟩)
              · clear hw'; go_simp
              clear hK K
              simp only [Act.put, List.setIfInBounds_toArray, List.set_cons_succ, List.set_cons_zero]
              refine wpQuiet_take (by rfl) (fun K hK => ⟨.pointer (some ⟨q + 1, 0, none⟩), fun w' hw' => ?_, hK _ ?_⟩)
              · clear hw'; go_simp
              clear hK K
              simp only [Act.put, List.setIfInBounds_toArray, List.set_cons_succ, List.set_cons_zero]
              refine wpQuiet_take (by rfl) (fun K hK => ⟨.pointer (some ⟨q + 1, 4, none⟩), fun w' hw' => ?_, hK _ ?_⟩)
              · clear hw'; go_simp
              clear hK K
              simp only [Act.put, List.setIfInBounds_toArray, List.set_cons_succ, List.set_cons_zero]
              refine wpQuiet_take (by rfl) (fun K hK => ⟨.int .i64 M, fun w' hw' => ?_, hK _ ?_⟩)
              · have hc : w'.cell? ⟨q + 1, 4, none⟩ = some (.int .i64 M) := (purse_cells (by rw [hw'.1]; exact rR')).2.2.2.2.1
                clear hw'; go_simp
              clear hK K
              simp only [Act.put, List.setIfInBounds_toArray, List.set_cons_succ, List.set_cons_zero]
              refine wpQuiet_take (by rfl) (fun K hK => ⟨.pointer (some ⟨q + 1, 0, none⟩), fun w' hw' => ?_, hK _ ?_⟩)
              · clear hw'; go_simp
              clear hK K
              simp only [Act.put, List.setIfInBounds_toArray, List.set_cons_succ, List.set_cons_zero]
              refine wpQuiet_take (by rfl) (fun K hK => ⟨.pointer (some ⟨q + 1, 0, none⟩), fun w' hw' => ?_, hK _ ?_⟩)
              · clear hw'; go_simp
              clear hK K
              simp only [Act.put, List.setIfInBounds_toArray, List.set_cons_succ, List.set_cons_zero]
              refine wpQuiet_take (by rfl) (fun K hK => ⟨.pointer (some ⟨q + 1, 5, none⟩), fun w' hw' => ?_, hK _ ?_⟩)
              · clear hw'; go_simp
              clear hK K
              simp only [Act.put, List.setIfInBounds_toArray, List.set_cons_succ, List.set_cons_zero]
              refine wpQuiet_take (by rfl) (fun K hK => ⟨.int .i64 S, fun w' hw' => ?_, hK _ ?_⟩)
              · have hc : w'.cell? ⟨q + 1, 5, none⟩ = some (.int .i64 S) := (purse_cells (by rw [hw'.1]; exact rR')).2.2.2.2.2
                clear hw'; go_simp
              clear hK K
              simp only [Act.put, List.setIfInBounds_toArray, List.set_cons_succ, List.set_cons_zero]
              refine wpQuiet_take (by rfl) (fun K hK => ⟨.int .i64 (M - S), fun w' hw' => ?_, hK _ ?_⟩)
              · clear hw'; go_simp
              clear hK K
              simp only [Act.put, List.setIfInBounds_toArray, List.set_cons_succ, List.set_cons_zero]
              refine wpQuiet_take (by rfl) (fun K hK => ⟨.bool false, fun w' hw' => ?_, hK _ ?_⟩)
              · clear hw'; go_simp
              clear hK K
              simp only [Act.put, List.setIfInBounds_toArray, List.set_cons_succ, List.set_cons_zero]
              refine wpQuiet_take0 ?_
              intro wz hz
              have rP' : wz.heap[q]? = some (.cells (purseC W L X U M S) PT (0, 0)) := by rw [hz.1]; exact rP'
              have rR' : wz.heap[q + 1]? = some (.cells (purseC W L X U M S) RT (0, 0)) := by rw [hz.1]; exact rR'
              have bel' := bel'.trans hz.2
              clear hz
              go_wp2_with fail
              go_roundw
              case rel => exact ⟨i + 1, L, X, U, M, S, by omega, by omega, by go_num, rP', rR', F', by have : ((i + 1 : Nat) : Int) = (i : Int) + 1 := rfl; omega, bel'⟩
              case measure => (simp [intOf] <;> omega)
            · rw [hf0] at kf
              obtain ⟨z0, z1, z2, z3, z4, z5, z6, z7, z8⟩ := id F
              obtain ⟨X, hX⟩ : ∃ X, (if useE C U N = 0 then U + N else U) = X := ⟨_, rfl⟩
              have hXb : U ≤ X ∧ X ≤ C := by rw [← hX]; unfold useE; split <;> (try split) <;> omega
              have g1 := flow_use q W L C U M S N F
              have g2 := ref_use (q + 1) W L C U M S N F
              simp only [hX] at g1 g2
              obtain ⟨ee, hee⟩ : ∃ ee, useE C U N = ee := ⟨_, rfl⟩
              simp only [hee] at g1 g2
              have G1 := Lib.hid g1
              have G2 := Lib.hid g2
              clear g1 g2 hX hee
              go_wp2_with (first
                | (go_at_call 17; refine (G1.out _ rP).mono ?_; rintro e w2 ⟨rfl, s2⟩; have rP2 := s2.row; have rR2 := s2.keep (by omega) rR)
                | (go_at_call 18; refine (G2.out _ rR2).mono ?_; rintro e w3 ⟨rfl, s3⟩; have rP' := s3.keep (by omega) rP2; have rR' := s3.row))
              have bel' := (bel.trans (s2.below _ hqq)).trans (s3.below _ (by omega))
              clear s2 s3 rP2 rR2 rP rR bel kf kg
              have F' : Fits W L C X M S := ⟨by omega, by omega, by omega, by omega, by omega, by omega, by omega, by omega, by omega⟩
              have hsub : IntKind.i64.wrap (M - S) = M - S := IntWalk.i64_in _ ⟨by omega, by omega⟩
              refine region_class1 16 (fun w' => w'.heap = (w3).heap ∧ Below w.heap.size (w3) w') mixedOrders (by kernel_rfl) ⟨rfl, (Below.refl _ _).drew⟩ rfl ?_
              refine wpQuiet_take (by rfl) (fun K hK => ⟨.int .i64 (ee), fun w' hw' => ?_, hK _ ?_⟩)
              · clear hw'; go_simp
              clear hK K
              simp only [Act.put, List.setIfInBounds_toArray, List.set_cons_succ, List.set_cons_zero]
              refine wpQuiet_take (by rfl) (fun K hK => ⟨.int .i64 (ee), fun w' hw' => ?_, hK _ ?_⟩)
              · clear hw'; go_simp
              clear hK K
              simp only [Act.put, List.setIfInBounds_toArray, List.set_cons_succ, List.set_cons_zero]
              refine wpQuiet_take (by rfl) (fun K hK => ⟨.bool false, fun w' hw' => ?_, hK _ ?_⟩)
              · clear hw'; go_simp
              clear hK K
              simp only [Act.put, List.setIfInBounds_toArray, List.set_cons_succ, List.set_cons_zero]
              refine wpQuiet_take (by rfl) (fun K hK => ⟨.bool false, fun w' hw' => ?_, hK _ ?_⟩)
              · clear hw'; go_simp
              clear hK K
              simp only [Act.put, List.setIfInBounds_toArray, List.set_cons_succ, List.set_cons_zero]
              refine wpQuiet_take (by rfl) (fun K hK => ⟨.pointer (some ⟨q, 0, none⟩), fun w' hw' => ?_, hK _ ?_⟩)
              · clear hw'; go_simp
              clear hK K
              simp only [Act.put, List.setIfInBounds_toArray, List.set_cons_succ, List.set_cons_zero]
              refine wpQuiet_take (by rfl) (fun K hK => ⟨.int .i64 (M - S), fun w' hw' => ?_, hK _ ?_⟩)
              · have hp : w'.heap[q]? = some (.cells (purseC W L C X M S) PT (0, 0)) := by rw [hw'.1]; exact rP'
                have hw2 := Lib.hid hw'
                clear hw'
                go_simp
                go_at_call 12
                refine (left_any q W L C X M S F' w' hp).mono ?_
                rintro e w3 ⟨rfl, k3, rfl⟩
                exact ⟨rfl, hw2.out.1, below_drewN hw2.out.2 _⟩
              clear hK K
              simp only [Act.put, List.setIfInBounds_toArray, List.set_cons_succ, List.set_cons_zero]
              refine wpQuiet_take (by rfl) (fun K hK => ⟨.pointer (some ⟨q + 1, 0, none⟩), fun w' hw' => ?_, hK _ ?_⟩)
              · clear hw'; go_simp
              clear hK K
              simp only [Act.put, List.setIfInBounds_toArray, List.set_cons_succ, List.set_cons_zero]
              refine wpQuiet_take (by rfl) (fun K hK => ⟨.pointer (some ⟨q + 1, 0, none⟩), fun w' hw' => ?_, hK _ ?_⟩)
              · clear hw'; go_simp
              clear hK K
              simp only [Act.put, List.setIfInBounds_toArray, List.set_cons_succ, List.set_cons_zero]
              refine wpQuiet_take (by rfl) (fun K hK => ⟨.pointer (some ⟨q + 1, 4, none⟩), fun w' hw' => ?_, hK _ ?_⟩)
              · clear hw'; go_simp
              clear hK K
              simp only [Act.put, List.setIfInBounds_toArray, List.set_cons_succ, List.set_cons_zero]
              refine wpQuiet_take (by rfl) (fun K hK => ⟨.int .i64 M, fun w' hw' => ?_, hK _ ?_⟩)
              · have hc : w'.cell? ⟨q + 1, 4, none⟩ = some (.int .i64 M) := (purse_cells (by rw [hw'.1]; exact rR')).2.2.2.2.1
                clear hw'; go_simp
              clear hK K
              simp only [Act.put, List.setIfInBounds_toArray, List.set_cons_succ, List.set_cons_zero]
              refine wpQuiet_take (by rfl) (fun K hK => ⟨.pointer (some ⟨q + 1, 0, none⟩), fun w' hw' => ?_, hK _ ?_⟩)
              · clear hw'; go_simp
              clear hK K
              simp only [Act.put, List.setIfInBounds_toArray, List.set_cons_succ, List.set_cons_zero]
              refine wpQuiet_take (by rfl) (fun K hK => ⟨.pointer (some ⟨q + 1, 0, none⟩), fun w' hw' => ?_, hK _ ?_⟩)
              · clear hw'; go_simp
              clear hK K
              simp only [Act.put, List.setIfInBounds_toArray, List.set_cons_succ, List.set_cons_zero]
              refine wpQuiet_take (by rfl) (fun K hK => ⟨.pointer (some ⟨q + 1, 5, none⟩), fun w' hw' => ?_, hK _ ?_⟩)
              · clear hw'; go_simp
              clear hK K
              simp only [Act.put, List.setIfInBounds_toArray, List.set_cons_succ, List.set_cons_zero]
              refine wpQuiet_take (by rfl) (fun K hK => ⟨.int .i64 S, fun w' hw' => ?_, hK _ ?_⟩)
              · have hc : w'.cell? ⟨q + 1, 5, none⟩ = some (.int .i64 S) := (purse_cells (by rw [hw'.1]; exact rR')).2.2.2.2.2
                clear hw'; go_simp
              clear hK K
              simp only [Act.put, List.setIfInBounds_toArray, List.set_cons_succ, List.set_cons_zero]
              refine wpQuiet_take (by rfl) (fun K hK => ⟨.int .i64 (M - S), fun w' hw' => ?_, hK _ ?_⟩)
              · clear hw'; go_simp
              clear hK K
              simp only [Act.put, List.setIfInBounds_toArray, List.set_cons_succ, List.set_cons_zero]
              refine wpQuiet_take (by rfl) (fun K hK => ⟨.bool false, fun w' hw' => ?_, hK _ ?_⟩)
              · clear hw'; go_simp
              clear hK K
              simp only [Act.put, List.setIfInBounds_toArray, List.set_cons_succ, List.set_cons_zero]
              refine wpQuiet_take0 ?_
              intro wz hz
              have rP' : wz.heap[q]? = some (.cells (purseC W L C X M S) PT (0, 0)) := by rw [hz.1]; exact rP'
              have rR' : wz.heap[q + 1]? = some (.cells (purseC W L C X M S) RT (0, 0)) := by rw [hz.1]; exact rR'
              have bel' := bel'.trans hz.2
              clear hz
              go_wp2_with fail
              go_roundw
              case rel => exact ⟨i + 1, L, C, X, M, S, by omega, by omega, by go_num, rP', rR', F', by have : ((i + 1 : Nat) : Int) = (i : Int) + 1 := rfl; omega, bel'⟩
              case measure => (simp [intOf] <;> omega)
            · rw [hf0] at kf
              obtain ⟨X, hX⟩ : ∃ X, (if W / 2 ≤ L - U then L else U + W) = X := ⟨_, rfl⟩
              obtain ⟨tt, htt⟩ : ∃ tt, (if W / 2 ≤ L - U then false else true) = tt := ⟨_, rfl⟩
              obtain ⟨z0, z1, z2, z3, z4, z5, z6, z7, z8⟩ := id F
              have hXb : L ≤ X ∧ X ≤ L + 65536 := by rw [← hX]; split <;> omega
              have g1 := flow_grant q W L C U M S F
              have g2 := ref_grant (q + 1) W L C U M S F
              simp only [hX, htt] at g1 g2
              have G1 := Lib.hid g1
              have G2 := Lib.hid g2
              clear g1 g2 hX htt
              go_wp2_with (first
                | (go_at_call 10; refine (G1.out _ rP).mono ?_; rintro e w2 ⟨rfl, s2⟩; have rP2 := s2.row; have rR2 := s2.keep (by omega) rR)
                | (go_at_call 19; refine (G2.out _ rR2).mono ?_; rintro e w3 ⟨rfl, s3⟩; have rP' := s3.keep (by omega) rP2; have rR' := s3.row))
              have bel' := (bel.trans (s2.below _ hqq)).trans (s3.below _ (by omega))
              clear s2 s3 rP2 rR2 rP rR bel kf kg
              have F' : Fits W X C U M S := ⟨by omega, by omega, by omega, by omega, by omega, by omega, by omega, by omega, by omega⟩
              have hsub : IntKind.i64.wrap (M - S) = M - S := IntWalk.i64_in _ ⟨by omega, by omega⟩
              refine region_class1 16 (fun w' => w'.heap = (w3).heap ∧ Below w.heap.size (w3) w') mixedOrders (by kernel_rfl) ⟨rfl, (Below.refl _ _).drew⟩ rfl ?_
              refine wpQuiet_take (by rfl) (fun K hK => ⟨.int .i64 (0), fun w' hw' => ?_, hK _ ?_⟩)
              · clear hw'; go_simp
              clear hK K
              simp only [Act.put, List.setIfInBounds_toArray, List.set_cons_succ, List.set_cons_zero]
              refine wpQuiet_take (by rfl) (fun K hK => ⟨.int .i64 (0), fun w' hw' => ?_, hK _ ?_⟩)
              · clear hw'; go_simp
              clear hK K
              simp only [Act.put, List.setIfInBounds_toArray, List.set_cons_succ, List.set_cons_zero]
              refine wpQuiet_take (by rfl) (fun K hK => ⟨.bool false, fun w' hw' => ?_, hK _ ?_⟩)
              · clear hw'; go_simp
              clear hK K
              simp only [Act.put, List.setIfInBounds_toArray, List.set_cons_succ, List.set_cons_zero]
              refine wpQuiet_take (by rfl) (fun K hK => ⟨.bool false, fun w' hw' => ?_, hK _ ?_⟩)
              · clear hw'; go_simp
              clear hK K
              simp only [Act.put, List.setIfInBounds_toArray, List.set_cons_succ, List.set_cons_zero]
              refine wpQuiet_take (by rfl) (fun K hK => ⟨.pointer (some ⟨q, 0, none⟩), fun w' hw' => ?_, hK _ ?_⟩)
              · clear hw'; go_simp
              clear hK K
              simp only [Act.put, List.setIfInBounds_toArray, List.set_cons_succ, List.set_cons_zero]
              refine wpQuiet_take (by rfl) (fun K hK => ⟨.int .i64 (M - S), fun w' hw' => ?_, hK _ ?_⟩)
              · have hp : w'.heap[q]? = some (.cells (purseC W X C U M S) PT (0, 0)) := by rw [hw'.1]; exact rP'
                have hw2 := Lib.hid hw'
                clear hw'
                go_simp
                go_at_call 12
                refine (left_any q W X C U M S F' w' hp).mono ?_
                rintro e w3 ⟨rfl, k3, rfl⟩
                exact ⟨rfl, hw2.out.1, below_drewN hw2.out.2 _⟩
              clear hK K
              simp only [Act.put, List.setIfInBounds_toArray, List.set_cons_succ, List.set_cons_zero]
              refine wpQuiet_take (by rfl) (fun K hK => ⟨.pointer (some ⟨q + 1, 0, none⟩), fun w' hw' => ?_, hK _ ?_⟩)
              · clear hw'; go_simp
              clear hK K
              simp only [Act.put, List.setIfInBounds_toArray, List.set_cons_succ, List.set_cons_zero]
              refine wpQuiet_take (by rfl) (fun K hK => ⟨.pointer (some ⟨q + 1, 0, none⟩), fun w' hw' => ?_, hK _ ?_⟩)
              · clear hw'; go_simp
              clear hK K
              simp only [Act.put, List.setIfInBounds_toArray, List.set_cons_succ, List.set_cons_zero]
              refine wpQuiet_take (by rfl) (fun K hK => ⟨.pointer (some ⟨q + 1, 4, none⟩), fun w' hw' => ?_, hK _ ?_⟩)
              · clear hw'; go_simp
              clear hK K
              simp only [Act.put, List.setIfInBounds_toArray, List.set_cons_succ, List.set_cons_zero]
              refine wpQuiet_take (by rfl) (fun K hK => ⟨.int .i64 M, fun w' hw' => ?_, hK _ ?_⟩)
              · have hc : w'.cell? ⟨q + 1, 4, none⟩ = some (.int .i64 M) := (purse_cells (by rw [hw'.1]; exact rR')).2.2.2.2.1
                clear hw'; go_simp
              clear hK K
              simp only [Act.put, List.setIfInBounds_toArray, List.set_cons_succ, List.set_cons_zero]
              refine wpQuiet_take (by rfl) (fun K hK => ⟨.pointer (some ⟨q + 1, 0, none⟩), fun w' hw' => ?_, hK _ ?_⟩)
              · clear hw'; go_simp
              clear hK K
              simp only [Act.put, List.setIfInBounds_toArray, List.set_cons_succ, List.set_cons_zero]
              refine wpQuiet_take (by rfl) (fun K hK => ⟨.pointer (some ⟨q + 1, 0, none⟩), fun w' hw' => ?_, hK _ ?_⟩)
              · clear hw'; go_simp
              clear hK K
              simp only [Act.put, List.setIfInBounds_toArray, List.set_cons_succ, List.set_cons_zero]
              refine wpQuiet_take (by rfl) (fun K hK => ⟨.pointer (some ⟨q + 1, 5, none⟩), fun w' hw' => ?_, hK _ ?_⟩)
              · clear hw'; go_simp
              clear hK K
              simp only [Act.put, List.setIfInBounds_toArray, List.set_cons_succ, List.set_cons_zero]
              refine wpQuiet_take (by rfl) (fun K hK => ⟨.int .i64 S, fun w' hw' => ?_, hK _ ?_⟩)
              · have hc : w'.cell? ⟨q + 1, 5, none⟩ = some (.int .i64 S) := (purse_cells (by rw [hw'.1]; exact rR')).2.2.2.2.2
                clear hw'; go_simp
              clear hK K
              simp only [Act.put, List.setIfInBounds_toArray, List.set_cons_succ, List.set_cons_zero]
              refine wpQuiet_take (by rfl) (fun K hK => ⟨.int .i64 (M - S), fun w' hw' => ?_, hK _ ?_⟩)
              · clear hw'; go_simp
              clear hK K
              simp only [Act.put, List.setIfInBounds_toArray, List.set_cons_succ, List.set_cons_zero]
              refine wpQuiet_take (by rfl) (fun K hK => ⟨.bool false, fun w' hw' => ?_, hK _ ?_⟩)
              · clear hw'; go_simp
              clear hK K
              simp only [Act.put, List.setIfInBounds_toArray, List.set_cons_succ, List.set_cons_zero]
              refine wpQuiet_take0 ?_
              intro wz hz
              have rP' : wz.heap[q]? = some (.cells (purseC W X C U M S) PT (0, 0)) := by rw [hz.1]; exact rP'
              have rR' : wz.heap[q + 1]? = some (.cells (purseC W X C U M S) RT (0, 0)) := by rw [hz.1]; exact rR'
              have bel' := bel'.trans hz.2
              clear hz
              go_wp2_with fail
              go_roundw
              case rel => exact ⟨i + 1, X, C, U, M, S, by omega, by omega, by go_num, rP', rR', F', by have : ((i + 1 : Nat) : Int) = (i : Int) + 1 := rfl; omega, bel'⟩
              case measure => (simp [intOf] <;> omega)
            · rw [hf0] at kf
              obtain ⟨z0, z1, z2, z3, z4, z5, z6, z7, z8⟩ := id F
              by_cases hk1 : N ≤ 1099511627776
              · by_cases hk2 : M < N
                · skip
                  have hv : max M (min N 1099511627776) = N := by omega
                  have g1 := flow_allow q W L C U M S N F
                  simp only [hv] at g1
                  have G1 := Lib.hid g1
                  clear g1
                  go_wp2_with (go_at_call 9; refine (G1.out _ rP).mono ?_; rintro e w2 ⟨rfl, s2⟩; have rP2 := s2.row; have rR2 := s2.keep (by omega) rR; obtain ⟨r0, r1, r2, r3, r4, r5⟩ := purse_cells rR2; have fr : w2.frozen? ⟨q + 1, 4, none⟩ = false := frozen_of_row _ _ _ _ _ rR2)
                  have s3 := rowSet_cell w2 (q + 1) 4 RT _ (.int .i64 (N)) rR2
                  generalize w2.setCell ⟨q + 1, 4, none⟩ (.int .i64 (N)) = w3 at *
                  have rP' := s3.keep (by omega) rP2
                  have rR' : w3.heap[q + 1]? = some (.cells (purseC W L C U (N) S) RT (0, 0)) := s3.row
                  have bel' := (bel.trans (s2.below _ hqq)).trans (s3.below _ (by omega))
                  clear s2 s3 rP2 rR2 rP rR bel kf kg r0 r1 r2 r3 r4 r5 fr
                  have F' : Fits W L C U (N) S := ⟨by omega, by omega, by omega, by omega, by omega, by omega, by omega, by omega, by omega⟩
                  have hsub : IntKind.i64.wrap (N - S) = N - S := IntWalk.i64_in _ ⟨by omega, by omega⟩
                  refine region_class1 16 (fun w' => w'.heap = (w3).heap ∧ Below w.heap.size (w3) w') mixedOrders (by kernel_rfl) ⟨rfl, (Below.refl _ _).drew⟩ rfl ?_
                  refine wpQuiet_take (by rfl) (fun K hK => ⟨.int .i64 (0), fun w' hw' => ?_, hK _ ?_⟩)
                  · clear hw'; go_simp
                  clear hK K
                  simp only [Act.put, List.setIfInBounds_toArray, List.set_cons_succ, List.set_cons_zero]
                  refine wpQuiet_take (by rfl) (fun K hK => ⟨.int .i64 (0), fun w' hw' => ?_, hK _ ?_⟩)
                  · clear hw'; go_simp
                  clear hK K
                  simp only [Act.put, List.setIfInBounds_toArray, List.set_cons_succ, List.set_cons_zero]
                  refine wpQuiet_take (by rfl) (fun K hK => ⟨.bool false, fun w' hw' => ?_, hK _ ?_⟩)
                  · clear hw'; go_simp
                  clear hK K
                  simp only [Act.put, List.setIfInBounds_toArray, List.set_cons_succ, List.set_cons_zero]
                  refine wpQuiet_take (by rfl) (fun K hK => ⟨.bool false, fun w' hw' => ?_, hK _ ?_⟩)
                  · clear hw'; go_simp
                  clear hK K
                  simp only [Act.put, List.setIfInBounds_toArray, List.set_cons_succ, List.set_cons_zero]
                  refine wpQuiet_take (by rfl) (fun K hK => ⟨.pointer (some ⟨q, 0, none⟩), fun w' hw' => ?_, hK _ ?_⟩)
                  · clear hw'; go_simp
                  clear hK K
                  simp only [Act.put, List.setIfInBounds_toArray, List.set_cons_succ, List.set_cons_zero]
                  refine wpQuiet_take (by rfl) (fun K hK => ⟨.int .i64 (N - S), fun w' hw' => ?_, hK _ ?_⟩)
                  · have hp : w'.heap[q]? = some (.cells (purseC W L C U (N) S) PT (0, 0)) := by rw [hw'.1]; exact rP'
                    have hw2 := Lib.hid hw'
                    clear hw'
                    go_simp
                    go_at_call 12
                    refine (left_any q W L C U (N) S F' w' hp).mono ?_
                    rintro e w3 ⟨rfl, k3, rfl⟩
                    exact ⟨rfl, hw2.out.1, below_drewN hw2.out.2 _⟩
                  clear hK K
                  simp only [Act.put, List.setIfInBounds_toArray, List.set_cons_succ, List.set_cons_zero]
                  refine wpQuiet_take (by rfl) (fun K hK => ⟨.pointer (some ⟨q + 1, 0, none⟩), fun w' hw' => ?_, hK _ ?_⟩)
                  · clear hw'; go_simp
                  clear hK K
                  simp only [Act.put, List.setIfInBounds_toArray, List.set_cons_succ, List.set_cons_zero]
                  refine wpQuiet_take (by rfl) (fun K hK => ⟨.pointer (some ⟨q + 1, 0, none⟩), fun w' hw' => ?_, hK _ ?_⟩)
                  · clear hw'; go_simp
                  clear hK K
                  simp only [Act.put, List.setIfInBounds_toArray, List.set_cons_succ, List.set_cons_zero]
                  refine wpQuiet_take (by rfl) (fun K hK => ⟨.pointer (some ⟨q + 1, 4, none⟩), fun w' hw' => ?_, hK _ ?_⟩)
                  · clear hw'; go_simp
                  clear hK K
                  simp only [Act.put, List.setIfInBounds_toArray, List.set_cons_succ, List.set_cons_zero]
                  refine wpQuiet_take (by rfl) (fun K hK => ⟨.int .i64 N, fun w' hw' => ?_, hK _ ?_⟩)
                  · have hc : w'.cell? ⟨q + 1, 4, none⟩ = some (.int .i64 N) := (purse_cells (by rw [hw'.1]; exact rR')).2.2.2.2.1
                    clear hw'; go_simp
                  clear hK K
                  simp only [Act.put, List.setIfInBounds_toArray, List.set_cons_succ, List.set_cons_zero]
                  refine wpQuiet_take (by rfl) (fun K hK => ⟨.pointer (some ⟨q + 1, 0, none⟩), fun w' hw' => ?_, hK _ ?_⟩)
                  · clear hw'; go_simp
                  clear hK K
                  simp only [Act.put, List.setIfInBounds_toArray, List.set_cons_succ, List.set_cons_zero]
                  refine wpQuiet_take (by rfl) (fun K hK => ⟨.pointer (some ⟨q + 1, 0, none⟩), fun w' hw' => ?_, hK _ ?_⟩)
                  · clear hw'; go_simp
                  clear hK K
                  simp only [Act.put, List.setIfInBounds_toArray, List.set_cons_succ, List.set_cons_zero]
                  refine wpQuiet_take (by rfl) (fun K hK => ⟨.pointer (some ⟨q + 1, 5, none⟩), fun w' hw' => ?_, hK _ ?_⟩)
                  · clear hw'; go_simp
                  clear hK K
                  simp only [Act.put, List.setIfInBounds_toArray, List.set_cons_succ, List.set_cons_zero]
                  refine wpQuiet_take (by rfl) (fun K hK => ⟨.int .i64 S, fun w' hw' => ?_, hK _ ?_⟩)
                  · have hc : w'.cell? ⟨q + 1, 5, none⟩ = some (.int .i64 S) := (purse_cells (by rw [hw'.1]; exact rR')).2.2.2.2.2
                    clear hw'; go_simp
                  clear hK K
                  simp only [Act.put, List.setIfInBounds_toArray, List.set_cons_succ, List.set_cons_zero]
                  refine wpQuiet_take (by rfl) (fun K hK => ⟨.int .i64 (N - S), fun w' hw' => ?_, hK _ ?_⟩)
                  · clear hw'; go_simp
                  clear hK K
                  simp only [Act.put, List.setIfInBounds_toArray, List.set_cons_succ, List.set_cons_zero]
                  refine wpQuiet_take (by rfl) (fun K hK => ⟨.bool false, fun w' hw' => ?_, hK _ ?_⟩)
                  · clear hw'; go_simp
                  clear hK K
                  simp only [Act.put, List.setIfInBounds_toArray, List.set_cons_succ, List.set_cons_zero]
                  refine wpQuiet_take0 ?_
                  intro wz hz
                  have rP' : wz.heap[q]? = some (.cells (purseC W L C U (N) S) PT (0, 0)) := by rw [hz.1]; exact rP'
                  have rR' : wz.heap[q + 1]? = some (.cells (purseC W L C U (N) S) RT (0, 0)) := by rw [hz.1]; exact rR'
                  have bel' := bel'.trans hz.2
                  clear hz
                  go_wp2_with fail
                  go_roundw
                  case rel => exact ⟨i + 1, L, C, U, N, S, by omega, by omega, by go_num, rP', rR', F', by have : ((i + 1 : Nat) : Int) = (i : Int) + 1 := rfl; omega, bel'⟩
                  case measure => (simp [intOf] <;> omega)
                · skip
                  have hv : max M (min N 1099511627776) = M := by omega
                  have g1 := flow_allow q W L C U M S N F
                  simp only [hv] at g1
                  have G1 := Lib.hid g1
                  clear g1
                  go_wp2_with (go_at_call 9; refine (G1.out _ rP).mono ?_; rintro e w2 ⟨rfl, s2⟩; have rP2 := s2.row; have rR2 := s2.keep (by omega) rR; obtain ⟨r0, r1, r2, r3, r4, r5⟩ := purse_cells rR2; have fr : w2.frozen? ⟨q + 1, 4, none⟩ = false := frozen_of_row _ _ _ _ _ rR2)
                  have s3 := rowSet_cell w2 (q + 1) 4 RT _ (.int .i64 (M)) rR2
                  generalize w2.setCell ⟨q + 1, 4, none⟩ (.int .i64 (M)) = w3 at *
                  have rP' := s3.keep (by omega) rP2
                  have rR' : w3.heap[q + 1]? = some (.cells (purseC W L C U (M) S) RT (0, 0)) := s3.row
                  have bel' := (bel.trans (s2.below _ hqq)).trans (s3.below _ (by omega))
                  clear s2 s3 rP2 rR2 rP rR bel kf kg r0 r1 r2 r3 r4 r5 fr
                  have F' : Fits W L C U (M) S := ⟨by omega, by omega, by omega, by omega, by omega, by omega, by omega, by omega, by omega⟩
                  have hsub : IntKind.i64.wrap (M - S) = M - S := IntWalk.i64_in _ ⟨by omega, by omega⟩
                  refine region_class1 16 (fun w' => w'.heap = (w3).heap ∧ Below w.heap.size (w3) w') mixedOrders (by kernel_rfl) ⟨rfl, (Below.refl _ _).drew⟩ rfl ?_
                  refine wpQuiet_take (by rfl) (fun K hK => ⟨.int .i64 (0), fun w' hw' => ?_, hK _ ?_⟩)
                  · clear hw'; go_simp
                  clear hK K
                  simp only [Act.put, List.setIfInBounds_toArray, List.set_cons_succ, List.set_cons_zero]
                  refine wpQuiet_take (by rfl) (fun K hK => ⟨.int .i64 (0), fun w' hw' => ?_, hK _ ?_⟩)
                  · clear hw'; go_simp
                  clear hK K
                  simp only [Act.put, List.setIfInBounds_toArray, List.set_cons_succ, List.set_cons_zero]
                  refine wpQuiet_take (by rfl) (fun K hK => ⟨.bool false, fun w' hw' => ?_, hK _ ?_⟩)
                  · clear hw'; go_simp
                  clear hK K
                  simp only [Act.put, List.setIfInBounds_toArray, List.set_cons_succ, List.set_cons_zero]
                  refine wpQuiet_take (by rfl) (fun K hK => ⟨.bool false, fun w' hw' => ?_, hK _ ?_⟩)
                  · clear hw'; go_simp
                  clear hK K
                  simp only [Act.put, List.setIfInBounds_toArray, List.set_cons_succ, List.set_cons_zero]
                  refine wpQuiet_take (by rfl) (fun K hK => ⟨.pointer (some ⟨q, 0, none⟩), fun w' hw' => ?_, hK _ ?_⟩)
                  · clear hw'; go_simp
                  clear hK K
                  simp only [Act.put, List.setIfInBounds_toArray, List.set_cons_succ, List.set_cons_zero]
                  refine wpQuiet_take (by rfl) (fun K hK => ⟨.int .i64 (M - S), fun w' hw' => ?_, hK _ ?_⟩)
                  · have hp : w'.heap[q]? = some (.cells (purseC W L C U (M) S) PT (0, 0)) := by rw [hw'.1]; exact rP'
                    have hw2 := Lib.hid hw'
                    clear hw'
                    go_simp
                    go_at_call 12
                    refine (left_any q W L C U (M) S F' w' hp).mono ?_
                    rintro e w3 ⟨rfl, k3, rfl⟩
                    exact ⟨rfl, hw2.out.1, below_drewN hw2.out.2 _⟩
                  clear hK K
                  simp only [Act.put, List.setIfInBounds_toArray, List.set_cons_succ, List.set_cons_zero]
                  refine wpQuiet_take (by rfl) (fun K hK => ⟨.pointer (some ⟨q + 1, 0, none⟩), fun w' hw' => ?_, hK _ ?_⟩)
                  · clear hw'; go_simp
                  clear hK K
                  simp only [Act.put, List.setIfInBounds_toArray, List.set_cons_succ, List.set_cons_zero]
                  refine wpQuiet_take (by rfl) (fun K hK => ⟨.pointer (some ⟨q + 1, 0, none⟩), fun w' hw' => ?_, hK _ ?_⟩)
                  · clear hw'; go_simp
                  clear hK K
                  simp only [Act.put, List.setIfInBounds_toArray, List.set_cons_succ, List.set_cons_zero]
                  refine wpQuiet_take (by rfl) (fun K hK => ⟨.pointer (some ⟨q + 1, 4, none⟩), fun w' hw' => ?_, hK _ ?_⟩)
                  · clear hw'; go_simp
                  clear hK K
                  simp only [Act.put, List.setIfInBounds_toArray, List.set_cons_succ, List.set_cons_zero]
                  refine wpQuiet_take (by rfl) (fun K hK => ⟨.int .i64 M, fun w' hw' => ?_, hK _ ?_⟩)
                  · have hc : w'.cell? ⟨q + 1, 4, none⟩ = some (.int .i64 M) := (purse_cells (by rw [hw'.1]; exact rR')).2.2.2.2.1
                    clear hw'; go_simp
                  clear hK K
                  simp only [Act.put, List.setIfInBounds_toArray, List.set_cons_succ, List.set_cons_zero]
                  refine wpQuiet_take (by rfl) (fun K hK => ⟨.pointer (some ⟨q + 1, 0, none⟩), fun w' hw' => ?_, hK _ ?_⟩)
                  · clear hw'; go_simp
                  clear hK K
                  simp only [Act.put, List.setIfInBounds_toArray, List.set_cons_succ, List.set_cons_zero]
                  refine wpQuiet_take (by rfl) (fun K hK => ⟨.pointer (some ⟨q + 1, 0, none⟩), fun w' hw' => ?_, hK _ ?_⟩)
                  · clear hw'; go_simp
                  clear hK K
                  simp only [Act.put, List.setIfInBounds_toArray, List.set_cons_succ, List.set_cons_zero]
                  refine wpQuiet_take (by rfl) (fun K hK => ⟨.pointer (some ⟨q + 1, 5, none⟩), fun w' hw' => ?_, hK _ ?_⟩)
                  · clear hw'; go_simp
                  clear hK K
                  simp only [Act.put, List.setIfInBounds_toArray, List.set_cons_succ, List.set_cons_zero]
                  refine wpQuiet_take (by rfl) (fun K hK => ⟨.int .i64 S, fun w' hw' => ?_, hK _ ?_⟩)
                  · have hc : w'.cell? ⟨q + 1, 5, none⟩ = some (.int .i64 S) := (purse_cells (by rw [hw'.1]; exact rR')).2.2.2.2.2
                    clear hw'; go_simp
                  clear hK K
                  simp only [Act.put, List.setIfInBounds_toArray, List.set_cons_succ, List.set_cons_zero]
                  refine wpQuiet_take (by rfl) (fun K hK => ⟨.int .i64 (M - S), fun w' hw' => ?_, hK _ ?_⟩)
                  · clear hw'; go_simp
                  clear hK K
                  simp only [Act.put, List.setIfInBounds_toArray, List.set_cons_succ, List.set_cons_zero]
                  refine wpQuiet_take (by rfl) (fun K hK => ⟨.bool false, fun w' hw' => ?_, hK _ ?_⟩)
                  · clear hw'; go_simp
                  clear hK K
                  simp only [Act.put, List.setIfInBounds_toArray, List.set_cons_succ, List.set_cons_zero]
                  refine wpQuiet_take0 ?_
                  intro wz hz
                  have rP' : wz.heap[q]? = some (.cells (purseC W L C U (M) S) PT (0, 0)) := by rw [hz.1]; exact rP'
                  have rR' : wz.heap[q + 1]? = some (.cells (purseC W L C U (M) S) RT (0, 0)) := by rw [hz.1]; exact rR'
                  have bel' := bel'.trans hz.2
                  clear hz
                  go_wp2_with fail
                  go_roundw
                  case rel => exact ⟨i + 1, L, C, U, M, S, by omega, by omega, by go_num, rP', rR', F', by have : ((i + 1 : Nat) : Int) = (i : Int) + 1 := rfl; omega, bel'⟩
                  case measure => (simp [intOf] <;> omega)
              · by_cases hk3 : M < 1099511627776
                · skip
                  have hv : max M (min N 1099511627776) = 1099511627776 := by omega
                  have g1 := flow_allow q W L C U M S N F
                  simp only [hv] at g1
                  have G1 := Lib.hid g1
                  clear g1
                  go_wp2_with (go_at_call 9; refine (G1.out _ rP).mono ?_; rintro e w2 ⟨rfl, s2⟩; have rP2 := s2.row; have rR2 := s2.keep (by omega) rR; obtain ⟨r0, r1, r2, r3, r4, r5⟩ := purse_cells rR2; have fr : w2.frozen? ⟨q + 1, 4, none⟩ = false := frozen_of_row _ _ _ _ _ rR2)
                  have s3 := rowSet_cell w2 (q + 1) 4 RT _ (.int .i64 (1099511627776)) rR2
                  generalize w2.setCell ⟨q + 1, 4, none⟩ (.int .i64 (1099511627776)) = w3 at *
                  have rP' := s3.keep (by omega) rP2
                  have rR' : w3.heap[q + 1]? = some (.cells (purseC W L C U (1099511627776) S) RT (0, 0)) := s3.row
                  have bel' := (bel.trans (s2.below _ hqq)).trans (s3.below _ (by omega))
                  clear s2 s3 rP2 rR2 rP rR bel kf kg r0 r1 r2 r3 r4 r5 fr
                  have F' : Fits W L C U (1099511627776) S := ⟨by omega, by omega, by omega, by omega, by omega, by omega, by omega, by omega, by omega⟩
                  have hsub : IntKind.i64.wrap (1099511627776 - S) = 1099511627776 - S := IntWalk.i64_in _ ⟨by omega, by omega⟩
                  refine region_class1 16 (fun w' => w'.heap = (w3).heap ∧ Below w.heap.size (w3) w') mixedOrders (by kernel_rfl) ⟨rfl, (Below.refl _ _).drew⟩ rfl ?_
                  refine wpQuiet_take (by rfl) (fun K hK => ⟨.int .i64 (0), fun w' hw' => ?_, hK _ ?_⟩)
                  · clear hw'; go_simp
                  clear hK K
                  simp only [Act.put, List.setIfInBounds_toArray, List.set_cons_succ, List.set_cons_zero]
                  refine wpQuiet_take (by rfl) (fun K hK => ⟨.int .i64 (0), fun w' hw' => ?_, hK _ ?_⟩)
                  · clear hw'; go_simp
                  clear hK K
                  simp only [Act.put, List.setIfInBounds_toArray, List.set_cons_succ, List.set_cons_zero]
                  refine wpQuiet_take (by rfl) (fun K hK => ⟨.bool false, fun w' hw' => ?_, hK _ ?_⟩)
                  · clear hw'; go_simp
                  clear hK K
                  simp only [Act.put, List.setIfInBounds_toArray, List.set_cons_succ, List.set_cons_zero]
                  refine wpQuiet_take (by rfl) (fun K hK => ⟨.bool false, fun w' hw' => ?_, hK _ ?_⟩)
                  · clear hw'; go_simp
                  clear hK K
                  simp only [Act.put, List.setIfInBounds_toArray, List.set_cons_succ, List.set_cons_zero]
                  refine wpQuiet_take (by rfl) (fun K hK => ⟨.pointer (some ⟨q, 0, none⟩), fun w' hw' => ?_, hK _ ?_⟩)
                  · clear hw'; go_simp
                  clear hK K
                  simp only [Act.put, List.setIfInBounds_toArray, List.set_cons_succ, List.set_cons_zero]
                  refine wpQuiet_take (by rfl) (fun K hK => ⟨.int .i64 (1099511627776 - S), fun w' hw' => ?_, hK _ ?_⟩)
                  · have hp : w'.heap[q]? = some (.cells (purseC W L C U (1099511627776) S) PT (0, 0)) := by rw [hw'.1]; exact rP'
                    have hw2 := Lib.hid hw'
                    clear hw'
                    go_simp
                    go_at_call 12
                    refine (left_any q W L C U (1099511627776) S F' w' hp).mono ?_
                    rintro e w3 ⟨rfl, k3, rfl⟩
                    exact ⟨rfl, hw2.out.1, below_drewN hw2.out.2 _⟩
                  clear hK K
                  simp only [Act.put, List.setIfInBounds_toArray, List.set_cons_succ, List.set_cons_zero]
                  refine wpQuiet_take (by rfl) (fun K hK => ⟨.pointer (some ⟨q + 1, 0, none⟩), fun w' hw' => ?_, hK _ ?_⟩)
                  · clear hw'; go_simp
                  clear hK K
                  simp only [Act.put, List.setIfInBounds_toArray, List.set_cons_succ, List.set_cons_zero]
                  refine wpQuiet_take (by rfl) (fun K hK => ⟨.pointer (some ⟨q + 1, 0, none⟩), fun w' hw' => ?_, hK _ ?_⟩)
                  · clear hw'; go_simp
                  clear hK K
                  simp only [Act.put, List.setIfInBounds_toArray, List.set_cons_succ, List.set_cons_zero]
                  refine wpQuiet_take (by rfl) (fun K hK => ⟨.pointer (some ⟨q + 1, 4, none⟩), fun w' hw' => ?_, hK _ ?_⟩)
                  · clear hw'; go_simp
                  clear hK K
                  simp only [Act.put, List.setIfInBounds_toArray, List.set_cons_succ, List.set_cons_zero]
                  refine wpQuiet_take (by rfl) (fun K hK => ⟨.int .i64 1099511627776, fun w' hw' => ?_, hK _ ?_⟩)
                  · have hc : w'.cell? ⟨q + 1, 4, none⟩ = some (.int .i64 1099511627776) := (purse_cells (by rw [hw'.1]; exact rR')).2.2.2.2.1
                    clear hw'; go_simp
                  clear hK K
                  simp only [Act.put, List.setIfInBounds_toArray, List.set_cons_succ, List.set_cons_zero]
                  refine wpQuiet_take (by rfl) (fun K hK => ⟨.pointer (some ⟨q + 1, 0, none⟩), fun w' hw' => ?_, hK _ ?_⟩)
                  · clear hw'; go_simp
                  clear hK K
                  simp only [Act.put, List.setIfInBounds_toArray, List.set_cons_succ, List.set_cons_zero]
                  refine wpQuiet_take (by rfl) (fun K hK => ⟨.pointer (some ⟨q + 1, 0, none⟩), fun w' hw' => ?_, hK _ ?_⟩)
                  · clear hw'; go_simp
                  clear hK K
                  simp only [Act.put, List.setIfInBounds_toArray, List.set_cons_succ, List.set_cons_zero]
                  refine wpQuiet_take (by rfl) (fun K hK => ⟨.pointer (some ⟨q + 1, 5, none⟩), fun w' hw' => ?_, hK _ ?_⟩)
                  · clear hw'; go_simp
                  clear hK K
                  simp only [Act.put, List.setIfInBounds_toArray, List.set_cons_succ, List.set_cons_zero]
                  refine wpQuiet_take (by rfl) (fun K hK => ⟨.int .i64 S, fun w' hw' => ?_, hK _ ?_⟩)
                  · have hc : w'.cell? ⟨q + 1, 5, none⟩ = some (.int .i64 S) := (purse_cells (by rw [hw'.1]; exact rR')).2.2.2.2.2
                    clear hw'; go_simp
                  clear hK K
                  simp only [Act.put, List.setIfInBounds_toArray, List.set_cons_succ, List.set_cons_zero]
                  refine wpQuiet_take (by rfl) (fun K hK => ⟨.int .i64 (1099511627776 - S), fun w' hw' => ?_, hK _ ?_⟩)
                  · clear hw'; go_simp
                  clear hK K
                  simp only [Act.put, List.setIfInBounds_toArray, List.set_cons_succ, List.set_cons_zero]
                  refine wpQuiet_take (by rfl) (fun K hK => ⟨.bool false, fun w' hw' => ?_, hK _ ?_⟩)
                  · clear hw'; go_simp
                  clear hK K
                  simp only [Act.put, List.setIfInBounds_toArray, List.set_cons_succ, List.set_cons_zero]
                  refine wpQuiet_take0 ?_
                  intro wz hz
                  have rP' : wz.heap[q]? = some (.cells (purseC W L C U (1099511627776) S) PT (0, 0)) := by rw [hz.1]; exact rP'
                  have rR' : wz.heap[q + 1]? = some (.cells (purseC W L C U (1099511627776) S) RT (0, 0)) := by rw [hz.1]; exact rR'
                  have bel' := bel'.trans hz.2
                  clear hz
                  go_wp2_with fail
                  go_roundw
                  case rel => exact ⟨i + 1, L, C, U, 1099511627776, S, by omega, by omega, by go_num, rP', rR', F', by have : ((i + 1 : Nat) : Int) = (i : Int) + 1 := rfl; omega, bel'⟩
                  case measure => (simp [intOf] <;> omega)
                · skip
                  have hv : max M (min N 1099511627776) = M := by omega
                  have g1 := flow_allow q W L C U M S N F
                  simp only [hv] at g1
                  have G1 := Lib.hid g1
                  clear g1
                  go_wp2_with (go_at_call 9; refine (G1.out _ rP).mono ?_; rintro e w2 ⟨rfl, s2⟩; have rP2 := s2.row; have rR2 := s2.keep (by omega) rR; obtain ⟨r0, r1, r2, r3, r4, r5⟩ := purse_cells rR2; have fr : w2.frozen? ⟨q + 1, 4, none⟩ = false := frozen_of_row _ _ _ _ _ rR2)
                  have s3 := rowSet_cell w2 (q + 1) 4 RT _ (.int .i64 (M)) rR2
                  generalize w2.setCell ⟨q + 1, 4, none⟩ (.int .i64 (M)) = w3 at *
                  have rP' := s3.keep (by omega) rP2
                  have rR' : w3.heap[q + 1]? = some (.cells (purseC W L C U (M) S) RT (0, 0)) := s3.row
                  have bel' := (bel.trans (s2.below _ hqq)).trans (s3.below _ (by omega))
                  clear s2 s3 rP2 rR2 rP rR bel kf kg r0 r1 r2 r3 r4 r5 fr
                  have F' : Fits W L C U (M) S := ⟨by omega, by omega, by omega, by omega, by omega, by omega, by omega, by omega, by omega⟩
                  have hsub : IntKind.i64.wrap (M - S) = M - S := IntWalk.i64_in _ ⟨by omega, by omega⟩
                  refine region_class1 16 (fun w' => w'.heap = (w3).heap ∧ Below w.heap.size (w3) w') mixedOrders (by kernel_rfl) ⟨rfl, (Below.refl _ _).drew⟩ rfl ?_
                  refine wpQuiet_take (by rfl) (fun K hK => ⟨.int .i64 (0), fun w' hw' => ?_, hK _ ?_⟩)
                  · clear hw'; go_simp
                  clear hK K
                  simp only [Act.put, List.setIfInBounds_toArray, List.set_cons_succ, List.set_cons_zero]
                  refine wpQuiet_take (by rfl) (fun K hK => ⟨.int .i64 (0), fun w' hw' => ?_, hK _ ?_⟩)
                  · clear hw'; go_simp
                  clear hK K
                  simp only [Act.put, List.setIfInBounds_toArray, List.set_cons_succ, List.set_cons_zero]
                  refine wpQuiet_take (by rfl) (fun K hK => ⟨.bool false, fun w' hw' => ?_, hK _ ?_⟩)
                  · clear hw'; go_simp
                  clear hK K
                  simp only [Act.put, List.setIfInBounds_toArray, List.set_cons_succ, List.set_cons_zero]
                  refine wpQuiet_take (by rfl) (fun K hK => ⟨.bool false, fun w' hw' => ?_, hK _ ?_⟩)
                  · clear hw'; go_simp
                  clear hK K
                  simp only [Act.put, List.setIfInBounds_toArray, List.set_cons_succ, List.set_cons_zero]
                  refine wpQuiet_take (by rfl) (fun K hK => ⟨.pointer (some ⟨q, 0, none⟩), fun w' hw' => ?_, hK _ ?_⟩)
                  · clear hw'; go_simp
                  clear hK K
                  simp only [Act.put, List.setIfInBounds_toArray, List.set_cons_succ, List.set_cons_zero]
                  refine wpQuiet_take (by rfl) (fun K hK => ⟨.int .i64 (M - S), fun w' hw' => ?_, hK _ ?_⟩)
                  · have hp : w'.heap[q]? = some (.cells (purseC W L C U (M) S) PT (0, 0)) := by rw [hw'.1]; exact rP'
                    have hw2 := Lib.hid hw'
                    clear hw'
                    go_simp
                    go_at_call 12
                    refine (left_any q W L C U (M) S F' w' hp).mono ?_
                    rintro e w3 ⟨rfl, k3, rfl⟩
                    exact ⟨rfl, hw2.out.1, below_drewN hw2.out.2 _⟩
                  clear hK K
                  simp only [Act.put, List.setIfInBounds_toArray, List.set_cons_succ, List.set_cons_zero]
                  refine wpQuiet_take (by rfl) (fun K hK => ⟨.pointer (some ⟨q + 1, 0, none⟩), fun w' hw' => ?_, hK _ ?_⟩)
                  · clear hw'; go_simp
                  clear hK K
                  simp only [Act.put, List.setIfInBounds_toArray, List.set_cons_succ, List.set_cons_zero]
                  refine wpQuiet_take (by rfl) (fun K hK => ⟨.pointer (some ⟨q + 1, 0, none⟩), fun w' hw' => ?_, hK _ ?_⟩)
                  · clear hw'; go_simp
                  clear hK K
                  simp only [Act.put, List.setIfInBounds_toArray, List.set_cons_succ, List.set_cons_zero]
                  refine wpQuiet_take (by rfl) (fun K hK => ⟨.pointer (some ⟨q + 1, 4, none⟩), fun w' hw' => ?_, hK _ ?_⟩)
                  · clear hw'; go_simp
                  clear hK K
                  simp only [Act.put, List.setIfInBounds_toArray, List.set_cons_succ, List.set_cons_zero]
                  refine wpQuiet_take (by rfl) (fun K hK => ⟨.int .i64 M, fun w' hw' => ?_, hK _ ?_⟩)
                  · have hc : w'.cell? ⟨q + 1, 4, none⟩ = some (.int .i64 M) := (purse_cells (by rw [hw'.1]; exact rR')).2.2.2.2.1
                    clear hw'; go_simp
                  clear hK K
                  simp only [Act.put, List.setIfInBounds_toArray, List.set_cons_succ, List.set_cons_zero]
                  refine wpQuiet_take (by rfl) (fun K hK => ⟨.pointer (some ⟨q + 1, 0, none⟩), fun w' hw' => ?_, hK _ ?_⟩)
                  · clear hw'; go_simp
                  clear hK K
                  simp only [Act.put, List.setIfInBounds_toArray, List.set_cons_succ, List.set_cons_zero]
                  refine wpQuiet_take (by rfl) (fun K hK => ⟨.pointer (some ⟨q + 1, 0, none⟩), fun w' hw' => ?_, hK _ ?_⟩)
                  · clear hw'; go_simp
                  clear hK K
                  simp only [Act.put, List.setIfInBounds_toArray, List.set_cons_succ, List.set_cons_zero]
                  refine wpQuiet_take (by rfl) (fun K hK => ⟨.pointer (some ⟨q + 1, 5, none⟩), fun w' hw' => ?_, hK _ ?_⟩)
                  · clear hw'; go_simp
                  clear hK K
                  simp only [Act.put, List.setIfInBounds_toArray, List.set_cons_succ, List.set_cons_zero]
                  refine wpQuiet_take (by rfl) (fun K hK => ⟨.int .i64 S, fun w' hw' => ?_, hK _ ?_⟩)
                  · have hc : w'.cell? ⟨q + 1, 5, none⟩ = some (.int .i64 S) := (purse_cells (by rw [hw'.1]; exact rR')).2.2.2.2.2
                    clear hw'; go_simp
                  clear hK K
                  simp only [Act.put, List.setIfInBounds_toArray, List.set_cons_succ, List.set_cons_zero]
                  refine wpQuiet_take (by rfl) (fun K hK => ⟨.int .i64 (M - S), fun w' hw' => ?_, hK _ ?_⟩)
                  · clear hw'; go_simp
                  clear hK K
                  simp only [Act.put, List.setIfInBounds_toArray, List.set_cons_succ, List.set_cons_zero]
                  refine wpQuiet_take (by rfl) (fun K hK => ⟨.bool false, fun w' hw' => ?_, hK _ ?_⟩)
                  · clear hw'; go_simp
                  clear hK K
                  simp only [Act.put, List.setIfInBounds_toArray, List.set_cons_succ, List.set_cons_zero]
                  refine wpQuiet_take0 ?_
                  intro wz hz
                  have rP' : wz.heap[q]? = some (.cells (purseC W L C U (M) S) PT (0, 0)) := by rw [hz.1]; exact rP'
                  have rR' : wz.heap[q + 1]? = some (.cells (purseC W L C U (M) S) RT (0, 0)) := by rw [hz.1]; exact rR'
                  have bel' := bel'.trans hz.2
                  clear hz
                  go_wp2_with fail
                  go_roundw
                  case rel => exact ⟨i + 1, L, C, U, M, S, by omega, by omega, by go_num, rP', rR', F', by have : ((i + 1 : Nat) : Int) = (i : Int) + 1 := rfl; omega, bel'⟩
                  case measure => (simp [intOf] <;> omega)
            · rw [hf0] at kf
              obtain ⟨z0, z1, z2, z3, z4, z5, z6, z7, z8⟩ := id F
              obtain ⟨X, hX⟩ : ∃ X, (if spendE M S N = 0 then S + N else S) = X := ⟨_, rfl⟩
              have hXb : S ≤ X ∧ X ≤ M := by rw [← hX]; unfold spendE; split <;> (try split) <;> omega
              have g1 := flow_spend q W L C U M S N F
              have g2 := ref_spend (q + 1) W L C U M S N F
              simp only [hX] at g1 g2
              obtain ⟨ee, hee⟩ : ∃ ee, spendE M S N = ee := ⟨_, rfl⟩
              simp only [hee] at g1 g2
              have G1 := Lib.hid g1
              have G2 := Lib.hid g2
              clear g1 g2 hX hee
              go_wp2_with (first
                | (go_at_call 14; refine (G1.out _ rP).mono ?_; rintro e w2 ⟨rfl, s2⟩; have rP2 := s2.row; have rR2 := s2.keep (by omega) rR)
                | (go_at_call 20; refine (G2.out _ rR2).mono ?_; rintro e w3 ⟨rfl, s3⟩; have rP' := s3.keep (by omega) rP2; have rR' := s3.row))
              have bel' := (bel.trans (s2.below _ hqq)).trans (s3.below _ (by omega))
              clear s2 s3 rP2 rR2 rP rR bel kf kg
              have F' : Fits W L C U M X := ⟨by omega, by omega, by omega, by omega, by omega, by omega, by omega, by omega, by omega⟩
              have hsub : IntKind.i64.wrap (M - X) = M - X := IntWalk.i64_in _ ⟨by omega, by omega⟩
              refine region_class1 16 (fun w' => w'.heap = (w3).heap ∧ Below w.heap.size (w3) w') mixedOrders (by kernel_rfl) ⟨rfl, (Below.refl _ _).drew⟩ rfl ?_
              refine wpQuiet_take (by rfl) (fun K hK => ⟨.int .i64 (ee), fun w' hw' => ?_, hK _ ?_⟩)
              · clear hw'; go_simp
              clear hK K
              simp only [Act.put, List.setIfInBounds_toArray, List.set_cons_succ, List.set_cons_zero]
              refine wpQuiet_take (by rfl) (fun K hK => ⟨.int .i64 (ee), fun w' hw' => ?_, hK _ ?_⟩)
              · clear hw'; go_simp
              clear hK K
              simp only [Act.put, List.setIfInBounds_toArray, List.set_cons_succ, List.set_cons_zero]
              refine wpQuiet_take (by rfl) (fun K hK => ⟨.bool false, fun w' hw' => ?_, hK _ ?_⟩)
              · clear hw'; go_simp
              clear hK K
              simp only [Act.put, List.setIfInBounds_toArray, List.set_cons_succ, List.set_cons_zero]
              refine wpQuiet_take (by rfl) (fun K hK => ⟨.bool false, fun w' hw' => ?_, hK _ ?_⟩)
              · clear hw'; go_simp
              clear hK K
              simp only [Act.put, List.setIfInBounds_toArray, List.set_cons_succ, List.set_cons_zero]
              refine wpQuiet_take (by rfl) (fun K hK => ⟨.pointer (some ⟨q, 0, none⟩), fun w' hw' => ?_, hK _ ?_⟩)
              · clear hw'; go_simp
              clear hK K
              simp only [Act.put, List.setIfInBounds_toArray, List.set_cons_succ, List.set_cons_zero]
              refine wpQuiet_take (by rfl) (fun K hK => ⟨.int .i64 (M - X), fun w' hw' => ?_, hK _ ?_⟩)
              · have hp : w'.heap[q]? = some (.cells (purseC W L C U M X) PT (0, 0)) := by rw [hw'.1]; exact rP'
                have hw2 := Lib.hid hw'
                clear hw'
                go_simp
                go_at_call 12
                refine (left_any q W L C U M X F' w' hp).mono ?_
                rintro e w3 ⟨rfl, k3, rfl⟩
                exact ⟨rfl, hw2.out.1, below_drewN hw2.out.2 _⟩
              clear hK K
              simp only [Act.put, List.setIfInBounds_toArray, List.set_cons_succ, List.set_cons_zero]
              refine wpQuiet_take (by rfl) (fun K hK => ⟨.pointer (some ⟨q + 1, 0, none⟩), fun w' hw' => ?_, hK _ ?_⟩)
              · clear hw'; go_simp
              clear hK K
              simp only [Act.put, List.setIfInBounds_toArray, List.set_cons_succ, List.set_cons_zero]
              refine wpQuiet_take (by rfl) (fun K hK => ⟨.pointer (some ⟨q + 1, 0, none⟩), fun w' hw' => ?_, hK _ ?_⟩)
              · clear hw'; go_simp
              clear hK K
              simp only [Act.put, List.setIfInBounds_toArray, List.set_cons_succ, List.set_cons_zero]
              refine wpQuiet_take (by rfl) (fun K hK => ⟨.pointer (some ⟨q + 1, 4, none⟩), fun w' hw' => ?_, hK _ ?_⟩)
              · clear hw'; go_simp
              clear hK K
              simp only [Act.put, List.setIfInBounds_toArray, List.set_cons_succ, List.set_cons_zero]
              refine wpQuiet_take (by rfl) (fun K hK => ⟨.int .i64 M, fun w' hw' => ?_, hK _ ?_⟩)
              · have hc : w'.cell? ⟨q + 1, 4, none⟩ = some (.int .i64 M) := (purse_cells (by rw [hw'.1]; exact rR')).2.2.2.2.1
                clear hw'; go_simp
              clear hK K
              simp only [Act.put, List.setIfInBounds_toArray, List.set_cons_succ, List.set_cons_zero]
              refine wpQuiet_take (by rfl) (fun K hK => ⟨.pointer (some ⟨q + 1, 0, none⟩), fun w' hw' => ?_, hK _ ?_⟩)
              · clear hw'; go_simp
              clear hK K
              simp only [Act.put, List.setIfInBounds_toArray, List.set_cons_succ, List.set_cons_zero]
              refine wpQuiet_take (by rfl) (fun K hK => ⟨.pointer (some ⟨q + 1, 0, none⟩), fun w' hw' => ?_, hK _ ?_⟩)
              · clear hw'; go_simp
              clear hK K
              simp only [Act.put, List.setIfInBounds_toArray, List.set_cons_succ, List.set_cons_zero]
              refine wpQuiet_take (by rfl) (fun K hK => ⟨.pointer (some ⟨q + 1, 5, none⟩), fun w' hw' => ?_, hK _ ?_⟩)
              · clear hw'; go_simp
              clear hK K
              simp only [Act.put, List.setIfInBounds_toArray, List.set_cons_succ, List.set_cons_zero]
              refine wpQuiet_take (by rfl) (fun K hK => ⟨.int .i64 X, fun w' hw' => ?_, hK _ ?_⟩)
              · have hc : w'.cell? ⟨q + 1, 5, none⟩ = some (.int .i64 X) := (purse_cells (by rw [hw'.1]; exact rR')).2.2.2.2.2
                clear hw'; go_simp
              clear hK K
              simp only [Act.put, List.setIfInBounds_toArray, List.set_cons_succ, List.set_cons_zero]
              refine wpQuiet_take (by rfl) (fun K hK => ⟨.int .i64 (M - X), fun w' hw' => ?_, hK _ ?_⟩)
              · clear hw'; go_simp
              clear hK K
              simp only [Act.put, List.setIfInBounds_toArray, List.set_cons_succ, List.set_cons_zero]
              refine wpQuiet_take (by rfl) (fun K hK => ⟨.bool false, fun w' hw' => ?_, hK _ ?_⟩)
              · clear hw'; go_simp
              clear hK K
              simp only [Act.put, List.setIfInBounds_toArray, List.set_cons_succ, List.set_cons_zero]
              refine wpQuiet_take0 ?_
              intro wz hz
              have rP' : wz.heap[q]? = some (.cells (purseC W L C U M X) PT (0, 0)) := by rw [hz.1]; exact rP'
              have rR' : wz.heap[q + 1]? = some (.cells (purseC W L C U M X) RT (0, 0)) := by rw [hz.1]; exact rR'
              have bel' := bel'.trans hz.2
              clear hz
              go_wp2_with fail
              go_roundw
              case rel => exact ⟨i + 1, L, C, U, M, X, by omega, by omega, by go_num, rP', rR', F', by have : ((i + 1 : Nat) : Int) = (i : Int) + 1 := rfl; omega, bel'⟩
              case measure => (simp [intOf] <;> omega)
        · obtain rfl : i = 80 := by omega
          go_wp2_with fail
          go_ret
          exact ⟨rfl, bel⟩
      · have hltI : ¬ (i : Int) < (n : Int) := by omega
        go_wp2_with fail
        go_ret
        exact ⟨rfl, bel⟩
theorem walk {H : Type} {enc : TypeId × Value → H} (w : World) (base : Nat) (v0 v1 : Value) (d0 d1 : DataW H) (p0 p1 : List MemPlace)
    (k0 : Value.okWide Try.prog w .any base 3 v0) (k1 : Value.okWide Try.prog w .any base 22 v1)
    (h0 : DataW.Trod enc Try.prog w 0 (fun _ => true) true 3 v0 d0 p0) (h1 : DataW.Trod enc Try.prog w 0 (fun _ => true) true 22 v1 d1 p1) :
    Calls Try.prog 3 #[v0, v1] w fun e w' => e = .returned (.bool true) ∧ Below w.heap.size w w' := by
  obtain ⟨W, rfl, _⟩ := open_int Try.underlying3 k0 h0
  obtain ⟨a, n, c, f, g, rfl, h, hn, hc⟩ := open_deals k1 h1
  exact law_any W a n c f g w h hn hc
set_option maxRecDepth 100000 in
theorem lifted (os : Os) (started : os.Started) (H : Type) (enc : TypeId × Value → H) :
    ReturnsInHanded {} Try.checked os 3 .any (Rows.flowPursesSpec.pre6 enc Try.prog Try.f3 Rows.flowPursesRow.domain false) (Rows.flowPursesSpec.post enc Try.prog Try.f3 false true false false) := by
  refine returnsInHanded_of_change (C := Try.checked) own started (by kernel_rfl) Try.func3
    (ChangeSpec.witness6 (enc := enc) (C := Try.checked) false ⟨#[], #[.int .i64 0, .slice none 0 0], []⟩ 8 (by kernel_rfl) (by kernel_rfl) (by kernel_rfl) (by kernel_rfl)) ?_
  intro W base args ds gs before hval0 hW hcnd _
  have hval : ∀ (j : Nat) t v, Try.f3.params[j]? = some t → args[j]? = some v → Value.okWide Try.prog W .any base t v := hval0
  have hW' := hW
  obtain ⟨p, q, hA0, hV, rfl, hfz, hnd⟩ := hW
  have hA : DataW.TrodAll enc Try.prog W 0 (fun _ => true) true Try.f3.params.toList args.toList ds p := hA0
  rw [Try.params3] at hA hval
  obtain ⟨v0, vs0, d0, ds0, p0, q0, hargs, rfl, rfl, h0, r0⟩ := trodAll_cons hA
  obtain ⟨v1, vs1, d1, ds1, p1, q1, rfl, rfl, rfl, h1, r1⟩ := trodAll_cons r0
  obtain ⟨rfl, rfl, rfl⟩ := trodAll_nil r1
  obtain rfl : args = #[v0, v1] := by cases args; simp_all
  obtain ⟨rfl, rfl⟩ := trodVars_none hV
  have k0 := h0
  have lt0 : ∀ x ∈ p0, x.block < W.heap.size := by obtain ⟨m, hm⟩ := k0; exact DataW.trod_lt m _ _ _ hm
  have k1 := h1
  have lt1 : ∀ x ∈ p1, x.block < W.heap.size := by obtain ⟨m, hm⟩ := k1; exact DataW.trod_lt m _ _ _ hm
  clear hA0 hval0
  refine (walk W base v0 v1 d0 d1 p0 p1 (hval 0 3 v0 rfl rfl) (hval 1 22 v1 rfl rfl) k0 k1).mono fun e W' ⟨he, bel⟩ => ?_
  subst he
  exact ⟨_, rfl, _, _, _, [], _, [], hW', trodAll_mk1 (shut_bool Try.underlying4 _), (trodAll_cons_mk (Below.trod laidOut (by kernel_rfl) (of_decide_eq_true (by kernel_rfl)) k0 bel lt0) (trodAll_cons_mk (Below.trod laidOut (by kernel_rfl) (of_decide_eq_true (by kernel_rfl)) k1 bel lt1) trodAll_mk0)), rfl, bel.frame _, fun h => by cases h⟩
theorem over : Rows.flowPursesRow.holds Try.pinned (OpenSpec.ofChange Rows.flowPursesSpec) :=
  OpenClaim.holds_of_wide 3 Try.f3 rfl rfl rfl rfl rfl rfl rfl ⟨rfl, rfl, rfl, rfl, rfl⟩ rfl rfl rfl rfl rfl (by kernel_rfl) Try.func3 (by kernel_rfl)
    (of_decide_eq_true (by kernel_rfl)) (by unfold Func.isWrapper; first | (rw [if_pos (by decide +kernel)]; kernel_rfl) | (rw [if_neg (by decide +kernel)]; exact ⟨rfl, rfl⟩))
    (fun os started H enc _ => lifted os started H enc)
theorem proved : Rows.FlowPursesSaid := over
end Go.Proofs.Ytabclpohcckjhaa.flowPurses
