/-
  THE LAW'S to: a document's header as the program's.
-/
import Derived.Test.YtcgbhcmgddgheaaDoorPackL
import Derived.Test.YtcgbhcmgddgheaaDoorInts
import Derived.Test.YtcgbhcmgddgheaaDoorHeld
import Derived.Deep.RegionHeld3
namespace Go.Proofs.YtcgbhcmgddgheaaDoor
open Go Go.RowKit Go.BigFrame
set_option linter.unusedSimpArgs false
set_option linter.unusedVariables false
set_option maxRecDepth 100000
theorem OwnI.intsIn {B : Nat} {L : Value} {G : List Int} {w : World} (h : OwnI B L G w) : IntsIn w L G := by
  rcases h.row with ⟨rfl, rfl⟩ | ⟨g, o, cap, cur, rfl, hB, hg, h1, h2, h3, h4⟩
  · exact ⟨none, 0, rfl, ⟨Nat.le_refl _, Nat.zero_le _⟩, fun i hi => by simp at hi⟩
  · exact ⟨some ⟨g, o, none⟩, cap, rfl, ⟨h1, h2⟩, fun i hi => ⟨g, o, rfl, lt_of_heap hg, by rw [cell_of_row _ _ _ _ _ _ hg, h4 i G[i] (List.getElem?_eq_getElem hi)]⟩⟩
theorem IntsIn.src {w : World} {a : Option Addr} {c : Nat} {G : List Int} (h : IntsIn w (.slice a G.length c) G) : Src Tryd.prog 1 56 (.slice a G.length c) G.length (cellsI G) w := by
  obtain ⟨a', c', e, hc, hat⟩ := h.at_
  injection e with e1 _ e3
  subst e1 e3
  cases G with
  | nil =>
    cases a with
    | none => exact src_no_ints c w
    | some x => exact Src.ofSlice w under_ints x 0 c (cellsI []) (by simp [cellsI]) (fun j u hj => by simp [cellsI] at hj) (cellsI_one [])
  | cons x r =>
    obtain ⟨b, o, rfl, _, _⟩ := hat 0 (by simp)
    exact src_ints (x :: r) b o c w (fun i y hy => by
      obtain ⟨hi, hy2⟩ := List.getElem?_eq_some_iff.1 hy
      obtain ⟨b2, o2, e, _, hcell⟩ := hat i hi
      cases e
      rw [hcell, hy2])
set_option maxHeartbeats 8000000 in
theorem to_any (k v l N z : Int) (D S T : ByteArray) (ph : Bool) (a : Option Addr) (c : Nat) (G : List Int) (w : World) (hL : IntsIn w (.slice a G.length c) G) (hG : G.length ≤ 20000000000000) :
    Calls Tryd.prog 34 #[.agg (hdC k v D S T l N z ph (.slice a G.length c))] w fun e w' => ∃ L', e = .returned (.agg (hdC k v D S T l N z ph L')) ∧ IntsIn w' L' G ∧ Below w.heap.size w w' := by
  have HL := Lib.hid hL
  have zt : (Tryd.prog.info? 66).map (·.zero) = some (some (.agg #[.int .i64 0, .int .i64 0, .string ⟨#[]⟩, .string ⟨#[]⟩, .string ⟨#[]⟩, .int .i64 0, .int .i64 0, .int .i64 0, .bool false, .slice none 0 0])) := by kernel_rfl
  clear hL
  unfold hdC
  go_enter Tryd.func34, Tryd.ntmps34
  go_upto_region 1 with (first
    | (refine wpList_alloc_row (o := ⟨some 2, .alloc 66, _, _, _, _⟩) rfl 66 rfl _ zt ?_)
    | fail)
  have r0 := rows_alloc w [.cells #[.int .i64 k, .int .i64 v, .string D, .string S, .string T, .int .i64 l, .int .i64 N, .int .i64 z, .bool ph, .slice a G.length c] 63, .cells #[.int .i64 0, .int .i64 0, .string ⟨#[]⟩, .string ⟨#[]⟩, .string ⟨#[]⟩, .int .i64 0, .int .i64 0, .int .i64 0, .bool false, .slice none 0 0] 66] 0
  have r1 := rows_alloc w [.cells #[.int .i64 k, .int .i64 v, .string D, .string S, .string T, .int .i64 l, .int .i64 N, .int .i64 z, .bool ph, .slice a G.length c] 63, .cells #[.int .i64 0, .int .i64 0, .string ⟨#[]⟩, .string ⟨#[]⟩, .string ⟨#[]⟩, .int .i64 0, .int .i64 0, .int .i64 0, .bool false, .slice none 0 0] 66] 1
  have bel : Below w.heap.size w ((w.alloc (.cells #[.int .i64 k, .int .i64 v, .string D, .string S, .string T, .int .i64 l, .int .i64 N, .int .i64 z, .bool ph, .slice a G.length c] 63)).alloc (.cells #[.int .i64 0, .int .i64 0, .string ⟨#[]⟩, .string ⟨#[]⟩, .string ⟨#[]⟩, .int .i64 0, .int .i64 0, .int .i64 0, .bool false, .slice none 0 0] 66)) := ((Below.refl w.heap.size w).alloc (Nat.le_refl _) _).alloc (by simp) _
  have hs1 : (w.alloc (.cells #[.int .i64 k, .int .i64 v, .string D, .string S, .string T, .int .i64 l, .int .i64 N, .int .i64 z, .bool ph, .slice a G.length c] 63)).heap.size = w.heap.size + 1 := by simp
  simp only [List.foldl_cons, List.foldl_nil, Nat.add_zero] at r0 r1
  try simp only [hs1]
  clear hs1 zt
  generalize World.alloc _ _ = wa at *
  have R0 : Hid (wa.heap[w.heap.size]? = some (.cells #[.int .i64 k, .int .i64 v, .string D, .string S, .string T, .int .i64 l, .int .i64 N, .int .i64 z, .bool ph, .slice a G.length c] 63 (0, 0))) := Lib.hid r0
  have R1 : Hid (wa.heap[w.heap.size + 1]? = some (.cells #[.int .i64 0, .int .i64 0, .string ⟨#[]⟩, .string ⟨#[]⟩, .string ⟨#[]⟩, .int .i64 0, .int .i64 0, .int .i64 0, .bool false, .slice none 0 0] 66 (0, 0))) := Lib.hid r1
  have BEL := Lib.hid bel
  have hq2 : w.heap.size + 1 < wa.heap.size := lt_row r1
  generalize hq : w.heap.size = q at *
  have HQ := Lib.hid hq
  clear r0 r1 bel hq
  try simp only [Act.put, List.setIfInBounds_toArray, List.set_cons_succ, List.set_cons_zero]
  refine wp_region_held_drew (S := (fun w' => w'.heap[q]? = some (.cells #[.int .i64 k, .int .i64 v, .string D, .string S, .string T, .int .i64 l, .int .i64 N, .int .i64 z, .bool ph, .slice a G.length c] 63 (0, 0)) ∧ ∃ cs : Array Value, cs.size = 10 ∧ w'.heap[q + 1]? = some (.cells cs 66 (0, 0)))) (by kernel_rfl) ⟨R0.out, _, rfl, R1.out⟩ (fun hHeld => ?_)
  have HS := Lib.hid hHeld
  clear hHeld
  refine wpAnyH_take (i := 0) (oi := ⟨some 3, _, _, _, _, _⟩) (v := .pointer (some ⟨q, 0, none⟩)) rfl (by kernel_rfl) (by kernel_rfl) (by kernel_rfl) (fun _ _ _ h => h) (Or.inl ⟨by rfl, fun w' hSw => ?_⟩) HS.out ?_
  · go_simp
  simp only [Act.put, List.setIfInBounds_toArray, List.set_cons_succ, List.set_cons_zero]
  refine wpAnyH_take (i := 1) (oi := ⟨some 4, _, _, _, _, _⟩) (v := .int .i64 k) rfl (by kernel_rfl) (by kernel_rfl) (by kernel_rfl) (fun _ _ _ h => h) (Or.inl ⟨by rfl, fun w' hSw => ?_⟩) HS.out ?_
  · obtain ⟨c0, c1, c2, c3, c4, c5, c6, c7, c8, c9⟩ := cells10 hSw.1
    clear hSw
    go_simp
  simp only [Act.put, List.setIfInBounds_toArray, List.set_cons_succ, List.set_cons_zero]
  refine wpAnyH_take (i := 2) (oi := ⟨some 5, _, _, _, _, _⟩) (v := .pointer (some ⟨q, 1, none⟩)) rfl (by kernel_rfl) (by kernel_rfl) (by kernel_rfl) (fun _ _ _ h => h) (Or.inl ⟨by rfl, fun w' hSw => ?_⟩) HS.out ?_
  · go_simp
  simp only [Act.put, List.setIfInBounds_toArray, List.set_cons_succ, List.set_cons_zero]
  refine wpAnyH_take (i := 3) (oi := ⟨some 6, _, _, _, _, _⟩) (v := .int .i64 v) rfl (by kernel_rfl) (by kernel_rfl) (by kernel_rfl) (fun _ _ _ h => h) (Or.inl ⟨by rfl, fun w' hSw => ?_⟩) HS.out ?_
  · obtain ⟨c0, c1, c2, c3, c4, c5, c6, c7, c8, c9⟩ := cells10 hSw.1
    clear hSw
    go_simp
  simp only [Act.put, List.setIfInBounds_toArray, List.set_cons_succ, List.set_cons_zero]
  refine wpAnyH_take (i := 4) (oi := ⟨some 7, _, _, _, _, _⟩) (v := .pointer (some ⟨q, 2, none⟩)) rfl (by kernel_rfl) (by kernel_rfl) (by kernel_rfl) (fun _ _ _ h => h) (Or.inl ⟨by rfl, fun w' hSw => ?_⟩) HS.out ?_
  · go_simp
  simp only [Act.put, List.setIfInBounds_toArray, List.set_cons_succ, List.set_cons_zero]
  refine wpAnyH_take (i := 5) (oi := ⟨some 8, _, _, _, _, _⟩) (v := .string D) rfl (by kernel_rfl) (by kernel_rfl) (by kernel_rfl) (fun _ _ _ h => h) (Or.inl ⟨by rfl, fun w' hSw => ?_⟩) HS.out ?_
  · obtain ⟨c0, c1, c2, c3, c4, c5, c6, c7, c8, c9⟩ := cells10 hSw.1
    clear hSw
    go_simp
  simp only [Act.put, List.setIfInBounds_toArray, List.set_cons_succ, List.set_cons_zero]
  refine wpAnyH_take (i := 6) (oi := ⟨some 9, _, _, _, _, _⟩) (v := .pointer (some ⟨q, 3, none⟩)) rfl (by kernel_rfl) (by kernel_rfl) (by kernel_rfl) (fun _ _ _ h => h) (Or.inl ⟨by rfl, fun w' hSw => ?_⟩) HS.out ?_
  · go_simp
  simp only [Act.put, List.setIfInBounds_toArray, List.set_cons_succ, List.set_cons_zero]
  refine wpAnyH_take (i := 7) (oi := ⟨some 10, _, _, _, _, _⟩) (v := .string S) rfl (by kernel_rfl) (by kernel_rfl) (by kernel_rfl) (fun _ _ _ h => h) (Or.inl ⟨by rfl, fun w' hSw => ?_⟩) HS.out ?_
  · obtain ⟨c0, c1, c2, c3, c4, c5, c6, c7, c8, c9⟩ := cells10 hSw.1
    clear hSw
    go_simp
  simp only [Act.put, List.setIfInBounds_toArray, List.set_cons_succ, List.set_cons_zero]
  refine wpAnyH_take (i := 8) (oi := ⟨some 11, _, _, _, _, _⟩) (v := .pointer (some ⟨q, 4, none⟩)) rfl (by kernel_rfl) (by kernel_rfl) (by kernel_rfl) (fun _ _ _ h => h) (Or.inl ⟨by rfl, fun w' hSw => ?_⟩) HS.out ?_
  · go_simp
  simp only [Act.put, List.setIfInBounds_toArray, List.set_cons_succ, List.set_cons_zero]
  refine wpAnyH_take (i := 9) (oi := ⟨some 12, _, _, _, _, _⟩) (v := .string T) rfl (by kernel_rfl) (by kernel_rfl) (by kernel_rfl) (fun _ _ _ h => h) (Or.inl ⟨by rfl, fun w' hSw => ?_⟩) HS.out ?_
  · obtain ⟨c0, c1, c2, c3, c4, c5, c6, c7, c8, c9⟩ := cells10 hSw.1
    clear hSw
    go_simp
  simp only [Act.put, List.setIfInBounds_toArray, List.set_cons_succ, List.set_cons_zero]
  refine wpAnyH_take (i := 10) (oi := ⟨some 13, _, _, _, _, _⟩) (v := .pointer (some ⟨q, 5, none⟩)) rfl (by kernel_rfl) (by kernel_rfl) (by kernel_rfl) (fun _ _ _ h => h) (Or.inl ⟨by rfl, fun w' hSw => ?_⟩) HS.out ?_
  · go_simp
  simp only [Act.put, List.setIfInBounds_toArray, List.set_cons_succ, List.set_cons_zero]
  refine wpAnyH_take (i := 11) (oi := ⟨some 14, _, _, _, _, _⟩) (v := .int .i64 l) rfl (by kernel_rfl) (by kernel_rfl) (by kernel_rfl) (fun _ _ _ h => h) (Or.inl ⟨by rfl, fun w' hSw => ?_⟩) HS.out ?_
  · obtain ⟨c0, c1, c2, c3, c4, c5, c6, c7, c8, c9⟩ := cells10 hSw.1
    clear hSw
    go_simp
  simp only [Act.put, List.setIfInBounds_toArray, List.set_cons_succ, List.set_cons_zero]
  refine wpAnyH_take (i := 12) (oi := ⟨some 15, _, _, _, _, _⟩) (v := .pointer (some ⟨q, 6, none⟩)) rfl (by kernel_rfl) (by kernel_rfl) (by kernel_rfl) (fun _ _ _ h => h) (Or.inl ⟨by rfl, fun w' hSw => ?_⟩) HS.out ?_
  · go_simp
  simp only [Act.put, List.setIfInBounds_toArray, List.set_cons_succ, List.set_cons_zero]
  refine wpAnyH_take (i := 13) (oi := ⟨some 16, _, _, _, _, _⟩) (v := .int .i64 N) rfl (by kernel_rfl) (by kernel_rfl) (by kernel_rfl) (fun _ _ _ h => h) (Or.inl ⟨by rfl, fun w' hSw => ?_⟩) HS.out ?_
  · obtain ⟨c0, c1, c2, c3, c4, c5, c6, c7, c8, c9⟩ := cells10 hSw.1
    clear hSw
    go_simp
  simp only [Act.put, List.setIfInBounds_toArray, List.set_cons_succ, List.set_cons_zero]
  refine wpAnyH_take (i := 14) (oi := ⟨some 17, _, _, _, _, _⟩) (v := .pointer (some ⟨q, 7, none⟩)) rfl (by kernel_rfl) (by kernel_rfl) (by kernel_rfl) (fun _ _ _ h => h) (Or.inl ⟨by rfl, fun w' hSw => ?_⟩) HS.out ?_
  · go_simp
  simp only [Act.put, List.setIfInBounds_toArray, List.set_cons_succ, List.set_cons_zero]
  refine wpAnyH_take (i := 15) (oi := ⟨some 18, _, _, _, _, _⟩) (v := .int .i64 z) rfl (by kernel_rfl) (by kernel_rfl) (by kernel_rfl) (fun _ _ _ h => h) (Or.inl ⟨by rfl, fun w' hSw => ?_⟩) HS.out ?_
  · obtain ⟨c0, c1, c2, c3, c4, c5, c6, c7, c8, c9⟩ := cells10 hSw.1
    clear hSw
    go_simp
  simp only [Act.put, List.setIfInBounds_toArray, List.set_cons_succ, List.set_cons_zero]
  refine wpAnyH_take (i := 16) (oi := ⟨some 19, _, _, _, _, _⟩) (v := .pointer (some ⟨q, 8, none⟩)) rfl (by kernel_rfl) (by kernel_rfl) (by kernel_rfl) (fun _ _ _ h => h) (Or.inl ⟨by rfl, fun w' hSw => ?_⟩) HS.out ?_
  · go_simp
  simp only [Act.put, List.setIfInBounds_toArray, List.set_cons_succ, List.set_cons_zero]
  refine wpAnyH_take (i := 17) (oi := ⟨some 20, _, _, _, _, _⟩) (v := .bool ph) rfl (by kernel_rfl) (by kernel_rfl) (by kernel_rfl) (fun _ _ _ h => h) (Or.inl ⟨by rfl, fun w' hSw => ?_⟩) HS.out ?_
  · obtain ⟨c0, c1, c2, c3, c4, c5, c6, c7, c8, c9⟩ := cells10 hSw.1
    clear hSw
    go_simp
  simp only [Act.put, List.setIfInBounds_toArray, List.set_cons_succ, List.set_cons_zero]
  refine wpAnyH_take (i := 19) (oi := ⟨some 22, _, _, _, _, _⟩) (v := .pointer (some ⟨q, 9, none⟩)) rfl (by kernel_rfl) (by kernel_rfl) (by kernel_rfl) (fun _ _ _ h => h) (Or.inl ⟨by rfl, fun w' hSw => ?_⟩) HS.out ?_
  · go_simp
  simp only [Act.put, List.setIfInBounds_toArray, List.set_cons_succ, List.set_cons_zero]
  refine wpAnyH_take (i := 20) (oi := ⟨some 23, _, _, _, _, _⟩) (v := .slice a G.length c) rfl (by kernel_rfl) (by kernel_rfl) (by kernel_rfl) (fun _ _ _ h => h) (Or.inl ⟨by rfl, fun w' hSw => ?_⟩) HS.out ?_
  · obtain ⟨c0, c1, c2, c3, c4, c5, c6, c7, c8, c9⟩ := cells10 hSw.1
    clear hSw
    go_simp
  simp only [Act.put, List.setIfInBounds_toArray, List.set_cons_succ, List.set_cons_zero]
  have OE : OwnI (q + 2) (.slice (some ⟨wa.heap.size, 0, none⟩) 0 0) [] (wa.drew.alloc (.cells #[] 3)) :=
    ⟨.inr ⟨wa.heap.size, 0, 0, #[], rfl, hq2, heap_alloc_last wa.drew _, Nat.le_refl _, Nat.zero_le _, Nat.le_refl _, fun i x h => by simp at h⟩, by simp; omega⟩
  have OEH := Lib.hid OE
  have hal : Below wa.heap.size wa (wa.drew.alloc (.cells #[] 3)) := (Below.refl wa.heap.size wa).drew.alloc (Nat.le_refl _) _
  have SRC := Lib.hid ((HL.out.later (by rw [HQ.out]; exact BEL.out.trans (hal.mono (by omega)))).src)
  have HS2 := Lib.hid (show (wa.drew.alloc (.cells #[] 3)).heap[q]? = some (.cells #[.int .i64 k, .int .i64 v, .string D, .string S, .string T, .int .i64 l, .int .i64 N, .int .i64 z, .bool ph, .slice a G.length c] 63 (0, 0)) ∧ ∃ cs : Array Value, cs.size = 10 ∧ (wa.drew.alloc (.cells #[] 3)).heap[q + 1]? = some (.cells cs 66 (0, 0)) from ⟨(hal.block q (by omega)).trans R0.out, _, rfl, (hal.block (q + 1) hq2).trans R1.out⟩)
  have BW := Lib.hid (BEL.out.trans (hal.mono (by omega)))
  clear OE hal
  refine wpAnyH_ready (rs := [18]) (by kernel_rfl) (by simp) ?_
  refine AllReadyH.cons (i := 18) rfl (fun K hK => ?_) AllReadyH.nil
  rw [if_pos (by rfl)]
  go_simp
  refine hK _ _ HS2.out (fun _ => ?_)
  clear hK K HS
  try simp only [Act.put, List.setIfInBounds_toArray, List.set_cons_succ, List.set_cons_zero]
  refine wpAnyH_ready (rs := [21]) (by kernel_rfl) (by simp) ?_
  refine AllReadyH.cons (i := 21) rfl (fun K hK => ?_) AllReadyH.nil
  refine step_append_ints (o := ⟨some 24, _, _, _, _, _⟩) (by rfl) _ _ (by rfl) (by rfl) (by rfl) OEH.out SRC.out (by simp; omega) ?_
  intro v' w' ho hg
  rw [List.nil_append] at ho
  obtain ⟨a5, c5', rfl⟩ := ho.slice
  have hb5 : Below (q + 2) (wa.drew.alloc (.cells #[] 3)) w' := hg.below (q + 2) OEH.out.base (fun j hj => (OEH.out.lt hj).1)
  have R0' := (hb5.block q (by omega)).trans HS2.out.1
  have R1' : w'.heap[q + 1]? = some (.cells #[.int .i64 0, .int .i64 0, .string ⟨#[]⟩, .string ⟨#[]⟩, .string ⟨#[]⟩, .int .i64 0, .int .i64 0, .int .i64 0, .bool false, .slice none 0 0] 66 (0, 0)) := (hb5.block (q + 1) (by omega)).trans ((((Below.refl wa.heap.size wa).drew.alloc (Nat.le_refl _) _).block (q + 1) hq2).trans R1.out)
  have HS := Lib.hid (show w'.heap[q]? = some (.cells #[.int .i64 k, .int .i64 v, .string D, .string S, .string T, .int .i64 l, .int .i64 N, .int .i64 z, .bool ph, .slice a G.length c] 63 (0, 0)) ∧ ∃ cs : Array Value, cs.size = 10 ∧ w'.heap[q + 1]? = some (.cells cs 66 (0, 0)) from ⟨R0', _, rfl, R1'⟩)
  have R1W := Lib.hid R1'
  have OW := Lib.hid ho
  have B5 := Lib.hid (BW.out.trans (hb5.mono (Nat.le_add_right q 2)))
  clear ho hg hb5 R0' R1' HS2 SRC OEH BW
  refine hK _ _ HS.out (fun _ => ?_)
  clear hK K
  try simp only [Act.put, List.setIfInBounds_toArray, List.set_cons_succ, List.set_cons_zero]
  refine wpAnyH_take (i := 22) (oi := ⟨some 25, _, _, _, _, _⟩) (v := .agg #[.int .i64 k, .int .i64 v, .string D, .string S, .string T, .int .i64 l, .int .i64 N, .int .i64 z, .bool ph, .slice a5 G.length c5']) rfl (by kernel_rfl) (by kernel_rfl) (by kernel_rfl) (fun _ _ _ h => h) (Or.inl ⟨by rfl, fun w' hSw => ?_⟩) HS.out ?_
  · go_simp
  simp only [Act.put, List.setIfInBounds_toArray, List.set_cons_succ, List.set_cons_zero]
  have rs := rowSet_store w' (q + 1) 66 _ #[.int .i64 k, .int .i64 v, .string D, .string S, .string T, .int .i64 l, .int .i64 N, .int .i64 z, .bool ph, .slice a5 G.length c5'] R1W.out rfl
  have RS := Lib.hid rs
  have HS3 := Lib.hid (show (w'.setCells (q + 1) 0 (#[.int .i64 k, .int .i64 v, .string D, .string S, .string T, .int .i64 l, .int .i64 N, .int .i64 z, .bool ph, .slice a5 G.length c5'] : Array Value).toList).heap[q]? = some (.cells #[.int .i64 k, .int .i64 v, .string D, .string S, .string T, .int .i64 l, .int .i64 N, .int .i64 z, .bool ph, .slice a G.length c] 63 (0, 0)) ∧ ∃ cs : Array Value, cs.size = 10 ∧ (w'.setCells (q + 1) 0 (#[.int .i64 k, .int .i64 v, .string D, .string S, .string T, .int .i64 l, .int .i64 N, .int .i64 z, .bool ph, .slice a5 G.length c5'] : Array Value).toList).heap[q + 1]? = some (.cells cs 66 (0, 0)) from ⟨rs.keep (by omega) HS.out.1, _, rfl, rs.row⟩)
  refine wpAnyH_ready (rs := [23]) (by kernel_rfl) (by simp) ?_
  refine AllReadyH.cons (i := 23) rfl (fun K hK => ?_) AllReadyH.nil
  rw [if_pos (by rfl)]
  refine wp_store_mid 66 _ _ rfl (q + 1) 0 #[.int .i64 k, .int .i64 v, .string D, .string S, .string T, .int .i64 l, .int .i64 N, .int .i64 z, .bool ph, .slice a5 G.length c5'] rfl rfl (fun j hj => ?_) (by kernel_rfl) (by kernel_rfl) ?_
  · rw [Nat.zero_add]
    refine ⟨?_, frozen_of_row _ _ _ _ _ R1W.out⟩
    rw [cell_of_row _ _ _ _ _ _ R1W.out, Array.getElem?_eq_getElem (by exact hj)]
    rfl
  refine hK _ _ HS3.out (fun _ => ?_)
  clear hK K
  try simp only [Act.put, List.setIfInBounds_toArray, List.set_cons_succ, List.set_cons_zero]
  refine wpAnyH_done (by kernel_rfl) ?_ _
  go_wp2_with fail
  refine ret_row (q + 1) 66 66 _ rfl _ rfl RS.out.row Tryd.underlying66 rfl (by kernel_rfl) rfl ?_
  exact ⟨.slice a5 G.length c5', rfl, (OW.out.kept (by rw [RS.out.size]; exact Nat.le_refl _) (fun g hg hlt => RS.out.other g (by have := (OW.out.lt hg).1; omega))).intsIn, by rw [HQ.out]; exact B5.out.trans (RS.out.below q (by omega))⟩
end Go.Proofs.YtcgbhcmgddgheaaDoor
