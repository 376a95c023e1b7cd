/-
  THE DOCUMENT'S ANSWER FOR packet: both ends' names, and Put of each kind.
-/
import Derived.Test.YtcgbhcmgddgheaaDoorPackH
namespace Go.Proofs.YtcgbhcmgddgheaaDoor
open Go Go.RowKit Go.BigFrame
set_option linter.unusedSimpArgs false
set_option linter.unusedVariables false
set_option maxRecDepth 100000
set_option maxHeartbeats 8000000 in
theorem names_any (k v l N z : Int) (D S T : ByteArray) (nd ns : Nat) (hD : D.size = nd) (hS : S.size = ns) (hd : nd ≤ 20) (hs : ns ≤ 20) (ph : Bool) (L : Value) (w : World) :
    Calls Tryd.prog 56 #[.agg (hdC k v D S T l N z ph L)] w fun e w' => e = .returned (.string (lowS (nd : Int) 1 ++ D ++ lowS (ns : Int) 1 ++ S)) ∧ Below w.heap.size w w' := by
  have z1 := lowS_size (nd : Int) 1
  have z2 := lowS_size (ns : Int) 1
  have LD := Lib.hid (fun w' => (show Calls Tryd.prog 55 #[.int .i64 (nd : Int), .int .i64 1] w' fun e w'' => e = .returned (.string (lowS (nd : Int) 1)) ∧ Below w'.heap.size w' w'' from low_any (nd : Int) 1 w' (by omega)))
  have LS := Lib.hid (fun w' => (show Calls Tryd.prog 55 #[.int .i64 (ns : Int), .int .i64 1] w' fun e w'' => e = .returned (.string (lowS (ns : Int) 1)) ∧ Below w'.heap.size w' w'' from low_any (ns : Int) 1 w' (by omega)))
  generalize lowS (nd : Int) 1 = A1 at *
  generalize lowS (ns : Int) 1 = A2 at *
  obtain ⟨P1, h1⟩ : ∃ P, A1 ++ D = P := ⟨_, rfl⟩
  obtain ⟨P2, h2⟩ : ∃ P, P1 ++ A2 = P := ⟨_, rfl⟩
  obtain ⟨P3, h3⟩ : ∃ P, P2 ++ S = P := ⟨_, rfl⟩
  have y1 : P1.size = 1 + nd := by rw [← h1, ByteArray.size_append, z1, hD]
  have y2 : P2.size = 1 + nd + 1 := by rw [← h2, ByteArray.size_append, y1, z2]
  rw [h1, h2, h3]
  have q1 : ¬ 9223372036854775807 < 1 + nd := by omega
  have q2 : ¬ 9223372036854775807 < 1 + nd + 1 := by omega
  have q3 : ¬ 9223372036854775807 < 1 + nd + 1 + ns := by omega
  unfold hdC
  go_enter Tryd.func56, Tryd.ntmps56
  have row := heap_alloc_last w (.cells #[.int .i64 k, .int .i64 v, .string D, .string S, .string T, .int .i64 l, .int .i64 N, .int .i64 z, .bool ph, L] 63)
  have bel := (Below.refl w.heap.size w).alloc (Nat.le_refl _) (.cells #[.int .i64 k, .int .i64 v, .string D, .string S, .string T, .int .i64 l, .int .i64 N, .int .i64 z, .bool ph, L] 63)
  go_upto_region 1 with (fail)
  generalize w.alloc _ = wa at *
  have ROW := Lib.hid row
  have BEL := Lib.hid bel
  have CX := Lib.hid (fun (w' : World) (hb : Below wa.heap.size wa w') => cells10 ((hb.block _ (lt_row ROW.out)).trans ROW.out))
  generalize hq : w.heap.size = q at *
  have HQ := Lib.hid hq
  clear row bel hq
  refine region_class1 15 (fun w' => Below wa.heap.size wa w') mixedOrders (by kernel_rfl) (Below.refl _ _).drew rfl ?_
  refine wpQuiet_take (by rfl) (fun K hK => ⟨.pointer (some ⟨q, 2, none⟩), fun w2' hw2 => ?_, hK _ ?_⟩)
  · clear hw2; go_simp
  clear hK K
  simp only [Act.put, List.setIfInBounds_toArray, List.set_cons_succ, List.set_cons_zero]
  refine wpQuiet_take (by rfl) (fun K hK => ⟨.string D, fun w2' hw2 => ?_, hK _ ?_⟩)
  · obtain ⟨_, _, c2, c3, _⟩ := CX.out w2' hw2
    clear hw2; go_simp
  clear hK K
  simp only [Act.put, List.setIfInBounds_toArray, List.set_cons_succ, List.set_cons_zero]
  refine wpQuiet_take (by rfl) (fun K hK => ⟨.int .i64 (nd : Int), fun w2' hw2 => ?_, hK _ ?_⟩)
  · clear hw2; go_simp
  clear hK K
  simp only [Act.put, List.setIfInBounds_toArray, List.set_cons_succ, List.set_cons_zero]
  refine wpQuiet_take (by rfl) (fun K hK => ⟨.string A1, fun w2' hw2 => ?_, hK _ ?_⟩)
  · go_simp
    go_at_call 55
    with_reducible refine (LD.out w2').mono ?_
    rintro e w5 ⟨rfl, hb5⟩
    exact ⟨rfl, hw2.trans (hb5.mono hw2.size)⟩
  clear hK K
  simp only [Act.put, List.setIfInBounds_toArray, List.set_cons_succ, List.set_cons_zero]
  refine wpQuiet_take (by rfl) (fun K hK => ⟨.pointer (some ⟨q, 2, none⟩), fun w2' hw2 => ?_, hK _ ?_⟩)
  · clear hw2; go_simp
  clear hK K
  simp only [Act.put, List.setIfInBounds_toArray, List.set_cons_succ, List.set_cons_zero]
  refine wpQuiet_take (by rfl) (fun K hK => ⟨.string D, fun w2' hw2 => ?_, hK _ ?_⟩)
  · obtain ⟨_, _, c2, c3, _⟩ := CX.out w2' hw2
    clear hw2; go_simp
  clear hK K
  simp only [Act.put, List.setIfInBounds_toArray, List.set_cons_succ, List.set_cons_zero]
  refine wpQuiet_take (by rfl) (fun K hK => ⟨.string P1, fun w2' hw2 => ?_, hK _ ?_⟩)
  · clear hw2; go_simp
  clear hK K
  simp only [Act.put, List.setIfInBounds_toArray, List.set_cons_succ, List.set_cons_zero]
  refine wpQuiet_take (by rfl) (fun K hK => ⟨.pointer (some ⟨q, 3, none⟩), fun w2' hw2 => ?_, hK _ ?_⟩)
  · clear hw2; go_simp
  clear hK K
  simp only [Act.put, List.setIfInBounds_toArray, List.set_cons_succ, List.set_cons_zero]
  refine wpQuiet_take (by rfl) (fun K hK => ⟨.string S, fun w2' hw2 => ?_, hK _ ?_⟩)
  · obtain ⟨_, _, c2, c3, _⟩ := CX.out w2' hw2
    clear hw2; go_simp
  clear hK K
  simp only [Act.put, List.setIfInBounds_toArray, List.set_cons_succ, List.set_cons_zero]
  refine wpQuiet_take (by rfl) (fun K hK => ⟨.int .i64 (ns : Int), fun w2' hw2 => ?_, hK _ ?_⟩)
  · clear hw2; go_simp
  clear hK K
  simp only [Act.put, List.setIfInBounds_toArray, List.set_cons_succ, List.set_cons_zero]
  refine wpQuiet_take (by rfl) (fun K hK => ⟨.string A2, fun w2' hw2 => ?_, hK _ ?_⟩)
  · go_simp
    go_at_call 55
    with_reducible refine (LS.out w2').mono ?_
    rintro e w5 ⟨rfl, hb5⟩
    exact ⟨rfl, hw2.trans (hb5.mono hw2.size)⟩
  clear hK K
  simp only [Act.put, List.setIfInBounds_toArray, List.set_cons_succ, List.set_cons_zero]
  refine wpQuiet_take (by rfl) (fun K hK => ⟨.string P2, fun w2' hw2 => ?_, hK _ ?_⟩)
  · clear hw2; go_simp
  clear hK K
  simp only [Act.put, List.setIfInBounds_toArray, List.set_cons_succ, List.set_cons_zero]
  refine wpQuiet_take (by rfl) (fun K hK => ⟨.pointer (some ⟨q, 3, none⟩), fun w2' hw2 => ?_, hK _ ?_⟩)
  · clear hw2; go_simp
  clear hK K
  simp only [Act.put, List.setIfInBounds_toArray, List.set_cons_succ, List.set_cons_zero]
  refine wpQuiet_take (by rfl) (fun K hK => ⟨.string S, fun w2' hw2 => ?_, hK _ ?_⟩)
  · obtain ⟨_, _, c2, c3, _⟩ := CX.out w2' hw2
    clear hw2; go_simp
  clear hK K
  simp only [Act.put, List.setIfInBounds_toArray, List.set_cons_succ, List.set_cons_zero]
  refine wpQuiet_take (by rfl) (fun K hK => ⟨.string P3, fun w2' hw2 => ?_, hK _ ?_⟩)
  · clear hw2; go_simp
  clear hK K
  simp only [Act.put, List.setIfInBounds_toArray, List.set_cons_succ, List.set_cons_zero]
  refine wpQuiet_take0 ?_
  intro w6 hb6
  have H6 := Lib.hid hb6
  clear hb6
  go_wp2_with fail
  go_ret
  exact ⟨rfl, by rw [HQ.out]; exact BEL.out.trans (H6.out.mono (by have := lt_row ROW.out; omega))⟩
end Go.Proofs.YtcgbhcmgddgheaaDoor
