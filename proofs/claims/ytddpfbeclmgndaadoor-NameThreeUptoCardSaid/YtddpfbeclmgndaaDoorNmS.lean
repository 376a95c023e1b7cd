/-
  name: Get.
-/
import Derived.Test.YtddpfbeclmgndaaDoorNmR
namespace Go.Proofs.YtddpfbeclmgndaaDoor
open Go Go.RowKit Go.BigFrame
set_option linter.unusedSimpArgs false
set_option linter.unusedVariables false
/-- What Get answers for bytes and a place within. -/
def getF (f : Nat → BitVec 8) (n p : Nat) : Nat × Nat × List (BitVec 8) := runG f n (meas n p [] + 1) p p 0 []
set_option maxHeartbeats 4000000 in
set_option maxRecDepth 100000 in
theorem get_arg (a : Option Addr) (n cap : Nat) (p : Int) (w : World) (hn : n ≤ cap) (hp : p < 0 ∨ (n : Int) < p) :
    Calls Tryd.prog 19 #[.slice a n cap, .int .i64 p] w fun e w' => e = .returned (.tuple #[.string ⟨#[]⟩, .int .i64 0, .int .i64 1]) ∧ w = w' := by
  by_cases h0 : p < 0
  · clear hp
    go_enter Tryd.func19, Tryd.ntmps19
    go_wp2_with fail
    go_ret3
    exact ⟨rfl, rfl⟩
  · have h1 : (n : Int) < p := by omega
    clear hp
    go_enter Tryd.func19, Tryd.ntmps19
    go_wp2_with fail
    go_ret3
    exact ⟨rfl, rfl⟩
set_option maxHeartbeats 8000000 in
set_option maxRecDepth 100000 in
theorem get_ok (a : Option Addr) (n cap : Nat) (f : Nat → BitVec 8) (p : Nat) (w : World) (hI : InQ w.heap.size a n cap f w) (hp : p ≤ n) :
    Calls Tryd.prog 19 #[.slice a n cap, .int .i64 (p : Int)] w fun e w' => e = .returned (.tuple #[.string (sL (getF f n p).2.2), .int .i64 ((getF f n p).2.1 : Int), .int .i64 ((getF f n p).1 : Int)]) ∧ Below w.heap.size w w' := by
  have hp1 : ¬ (p : Int) < 0 := by omega
  have hp2 : ¬ (n : Int) < (p : Int) := by omega
  have row := heap_alloc_last w (.cells (rC (.slice a n cap) p p 0 (.slice none 0 0) false 0) 60)
  have bel := (Below.refl w.heap.size w).alloc (Nat.le_refl _) (.cells (rC (.slice a n cap) p p 0 (.slice none 0 0) false 0) 60)
  have G0 : Gd w.heap.size a n cap f p p 0 (.slice none 0 0) [] false 0 (w.alloc (.cells (rC (.slice a n cap) p p 0 (.slice none 0 0) false 0) 60)) := ⟨row, OwnL.nil _ _ (by simp), hI.keep bel⟩
  obtain ⟨R, hR⟩ : ∃ R, getF f n p = R := ⟨_, rfl⟩
  rw [hR]
  have HR : Hid (runG f n (meas n p [] + 1) p p 0 [] = R) := hR
  obtain ⟨re, rd, rt⟩ := R
  dsimp only
  unfold rC at G0 bel
  have HG := Lib.hid G0
  have HB := Lib.hid bel
  clear row bel G0 hR hI
  go_enter Tryd.func19, Tryd.ntmps19
  go_upto_region 4 with fail
  go_loopg [] (meas n p [] + 1) (fun g wr => ∃ (p' l d : Nat) (tv : Value) (T : List (BitVec 8)) (thr : Bool) (e : Nat), Hid (Gd w.heap.size a n cap f p' l d tv T thr e wr) ∧ Hid (Below w.heap.size w wr) ∧ Hid ((thr = false ∧ e = 0 → runG f n g p' l d T = (re, rd, rt) ∧ meas n l T < g ∧ T.length ≤ 254) ∧ (¬ (thr = false ∧ e = 0) → outG (p', l, d, T, thr, e) = (re, rd, rt))))
  case atStart => exact ⟨p, p, 0, .slice none 0 0, [], false, 0, HG.out, HB.out, fun _ => ⟨HR.out, by omega, by simp⟩, fun h => absurd ⟨rfl, rfl⟩ h⟩
  case round =>
    clear HG HB HR
    obtain ⟨p', l, d, tv, T, thr, e, HG, HB, HR⟩ := hrel
    obtain ⟨c0, c1, c2, c3, c4, c5, c6⟩ := cells7 HG.out.row
    cases thr with
    | false =>
      by_cases he : e = 0
      · subst he
        obtain ⟨h1, h2, h3⟩ := HR.out.1 ⟨rfl, rfl⟩
        have ST := Lib.hid (step_any HG.out (by omega))
        obtain ⟨k, hk⟩ : ∃ k, gk = k + 1 := ⟨gk - 1, by omega⟩
        subst hk
        have H1 := Lib.hid h1
        have H2 := Lib.hid h2
        have H3 := Lib.hid h3
        have HM := Lib.hid (fun a1 a2 => meas_step (f := f) (n := n) (p := p') (l := l) (d := d) (T := T) a1 a2 h3)
        clear h1 h2 h3 HR
        have c6' : wr.cell? ⟨w.heap.size, 6, none⟩ = some (.int .i64 0) := c6
        clear c6
        go_wp2_with (go_at_call 34; refine ST.out.mono ?_; clear ST; rintro e w2 ⟨⟨v2, rfl⟩, ⟨tv2, G2⟩, B2⟩)
        go_roundg k
        case measure => go_light; omega
        case rel =>
          go_light
          have h1 := H1.out
          rw [runG] at h1
          generalize hS : stepS f n p' l d T = S at *
          obtain ⟨s1, s2, s3, s4, s5, s6⟩ := S
          dsimp only at *
          refine ⟨s1, s2, s3, tv2, s4, s5, s6, G2, HB.out.trans B2, fun hc => ?_, fun hc => ?_⟩
          · rw [if_pos hc] at h1
            have hm := HM.out hc.1 hc.2
            exact ⟨h1, by have := H2.out; omega, hm.2⟩
          · rw [if_neg hc] at h1
            exact h1
      · have hne : ((e : Int) == 0) = false := beq_eq_false_iff_ne.2 (by omega)
        have hR := HR.out.2 (fun h => he h.2)
        unfold outG at hR
        rw [if_neg he] at hR
        injection hR with r1 r2
        injection r2 with r2 r3
        subst r1 r2 r3
        clear HR
        have d6 : wr.drew.cell? ⟨w.heap.size, 6, none⟩ = some (.int .i64 (e : Int)) := c6
        go_upto_region 7 with fail
        go_region
        go_wp2_with fail
        go_ret3
        exact ⟨rfl, HB.out.drew⟩
    | true =>
      by_cases he : e = 0
      · subst he
        have hR := HR.out.2 (fun h => by cases h.1)
        unfold outG at hR
        rw [if_pos rfl] at hR
        injection hR with r1 r2
        injection r2 with r2 r3
        have R3 := Lib.hid r3
        subst r1 r2
        clear HR r3
        have c6' : wr.cell? ⟨w.heap.size, 6, none⟩ = some (.int .i64 0) := c6
        clear c6
        have NM := Lib.hid (fun (w2 : World) (hb : Below wr.heap.size wr w2) => name_any HG.out hb)
        have CL := Lib.hid (fun (w2 : World) (hb : Below wr.heap.size wr w2) => (hb.cell (p := ⟨w.heap.size, 3, none⟩) (lt_row HG.out.row)).trans c3)
        have R4 : Hid (nameF T = rt) := R3.out
        rw [R4.out] at NM
        clear R3
        go_upto_region 8 with fail
        refine region_class 7 (fun w' => Below wr.heap.size wr w') mixedOrders (by kernel_rfl) (Below.refl _ _).drew ?_
        refine wpQuiet_take (by rfl) (fun K hK => ⟨.pointer (some ⟨w.heap.size, 0, none⟩), fun w2' hw2 => ?_, hK _ ?_⟩)
        · clear hw2; go_simp
        clear hK K
        simp only [Act.put, List.setIfInBounds_toArray, List.set_cons_succ, List.set_cons_zero]
        refine wpQuiet_take (by rfl) (fun K hK => ⟨.string (sL rt), fun w2' hw2 => ?_, hK _ ?_⟩)
        · go_simp
          go_at_call 35
          with_reducible refine (NM.out w2' hw2).mono ?_
          rintro e w5 ⟨rfl, rfl⟩
          exact ⟨rfl, hw2⟩
        clear hK K
        simp only [Act.put, List.setIfInBounds_toArray, List.set_cons_succ, List.set_cons_zero]
        refine wpQuiet_take (by rfl) (fun K hK => ⟨.pointer (some ⟨w.heap.size, 0, none⟩), fun w2' hw2 => ?_, hK _ ?_⟩)
        · clear hw2; go_simp
        clear hK K
        simp only [Act.put, List.setIfInBounds_toArray, List.set_cons_succ, List.set_cons_zero]
        refine wpQuiet_take (by rfl) (fun K hK => ⟨.pointer (some ⟨w.heap.size, 0, none⟩), fun w2' hw2 => ?_, hK _ ?_⟩)
        · clear hw2; go_simp
        clear hK K
        simp only [Act.put, List.setIfInBounds_toArray, List.set_cons_succ, List.set_cons_zero]
        refine wpQuiet_take (by rfl) (fun K hK => ⟨.pointer (some ⟨w.heap.size, 3, none⟩), fun w2' hw2 => ?_, hK _ ?_⟩)
        · clear hw2; go_simp
        clear hK K
        simp only [Act.put, List.setIfInBounds_toArray, List.set_cons_succ, List.set_cons_zero]
        refine wpQuiet_take (by rfl) (fun K hK => ⟨.int .i64 (d : Int), fun w2' hw2 => ?_, hK _ ?_⟩)
        · have cc := CL.out w2' hw2
          clear hw2; go_simp
        clear hK K
        simp only [Act.put, List.setIfInBounds_toArray, List.set_cons_succ, List.set_cons_zero]
        refine wpQuiet_take (by rfl) (fun K hK => ⟨.string (sL rt), fun w2' hw2 => ?_, hK _ ?_⟩)
        · clear hw2; go_simp
        clear hK K
        simp only [Act.put, List.setIfInBounds_toArray, List.set_cons_succ, List.set_cons_zero]
        refine wpQuiet_take0 ?_
        intro w6 hb6
        have B6 := Lib.hid (HB.out.trans (hb6.mono HB.out.size))
        clear hb6
        go_wp2_with fail
        go_ret3
        exact ⟨rfl, B6.out⟩
      · have hne : ((e : Int) == 0) = false := beq_eq_false_iff_ne.2 (by omega)
        have hR := HR.out.2 (fun h => he h.2)
        unfold outG at hR
        rw [if_neg he] at hR
        injection hR with r1 r2
        injection r2 with r2 r3
        subst r1 r2 r3
        clear HR
        have d6 : wr.drew.cell? ⟨w.heap.size, 6, none⟩ = some (.int .i64 (e : Int)) := c6
        go_upto_region 7 with fail
        go_region
        go_wp2_with fail
        go_ret3
        exact ⟨rfl, HB.out.drew⟩
end Go.Proofs.YtddpfbeclmgndaaDoor
