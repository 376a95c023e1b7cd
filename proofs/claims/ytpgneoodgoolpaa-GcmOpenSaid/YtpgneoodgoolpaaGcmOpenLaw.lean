/-
  GcmOpen holds: what was sealed is opened; nothing that is handed in is changed. No conditions.
-/
import Derived.Test.YtpgneoodgoolpaaRows
import Derived.Test.YtpgneoodgoolpaaLetter
import Derived.Test.YtpgneoodgoolpaaGcmL
import Derived.WalkKit
import Derived.ProofKit
import Derived.OpenShut
import Derived.ShutString
import Derived.ChangeOld
import Derived.Below
import Derived.Deep.DeepCutAuto
import Derived.Deep.Upon
import Derived.Deep.AppendSrc
import Derived.SizedLaws
namespace Go.Proofs.Ytpgneoodgoolpaa.gcmOpen
open Go Go.ChangeShapes Go.WideShapes Go.ChangeAt Go.RowKit Go.BigFrame
set_option linter.unusedVariables false
theorem own : ownKnob Try.prog.godebug = none := by kernel_rfl
theorem laidOut : laidOutB Try.prog = true := by kernel_rfl
set_option linter.unusedSimpArgs false
theorem run_append_empty (ty : TypeId) (k m : Nat) (x : Value) (g : Nat → BitVec 8) (w : World) {tx : TypeId} (hs : Src Try.prog 1 tx x m (firsts g m) w) (hm : m ≤ 200000000000000) :
    ∃ a c w', (Builtin.append_ #[27, tx] ty #[.slice (some ⟨k, 0, none⟩) 0 0, x]).run Try.prog w = .ok (.slice a m c) w' ∧ Below w.heap.size w w' ∧ BytesIn w' a m g ∧ m ≤ c ∧ c ≤ maxLen := by
  obtain ⟨i, hi, hz, hsz, hby⟩ := info_u8'
  have hs' : Src Try.prog i.size tx x m (firsts g m) w := by rw [hsz]; exact hs
  by_cases h0 : m = 0
  · subst h0
    exact ⟨some ⟨k, 0, none⟩, 0, w, run_append_nothing (P := Try.prog) w 27 tx ty 5 i under_bytes hi _ 0 0 (Nat.le_refl _) x hs', Below.refl _ _, ⟨Nat.zero_le _, .inl rfl⟩, Nat.le_refl _, Nat.zero_le _⟩
  · have hm63 : 0 + m ≤ maxLen := by unfold maxLen; omega
    have hold : (Builtin.firstCells i.size 0 (.slice (some ⟨k, 0, none⟩) 0 0)).run Try.prog w.drew = .ok ([] : List Value).toArray w.drew := run_firstCells_some w.drew i.size 0 _ 0 0 [] (by simp) (fun j v h => by simp at h)
    have hr := run_append_grow_src (P := Try.prog) w 27 tx ty 5 i _ under_bytes hi hz (some ⟨k, 0, none⟩) 0 0 [] hold x m (firsts g m) hs' (by omega) (by omega) (growslice_fits_wide (by omega) (by rw [hby]; omega))
    rw [Nat.zero_add] at hr
    refine ⟨_, _, _, hr, (Below.refl w.heap.size w).drew.alloc (by exact Nat.le_refl _) _, ⟨by unfold maxLen; omega, .inr ⟨w.heap.size, 0, rfl, by simp, fun j hj => ?_⟩⟩, by have := grownCap_ge w m 0 5; exact this, grownCap_le_maxLen _ _ _ _ (by rw [Nat.zero_add] at hm63; exact hm63)⟩
    have hrow := heap_alloc_new w.drew (.cells (([] ++ firsts g m).toArray ++ Builtin.zeroCells (Value.cells (.int .u8 0)) (grownCap w m 0 5 - m)) 5)
    rw [show w.drew.heap.size = w.heap.size from rfl] at hrow
    rw [Nat.zero_add, cell_of_row _ _ _ _ _ _ hrow]
    rw [Array.getElem?_append_left (by simp [firsts_len]; exact hj)]
    simpa using firsts_get g m j hj
theorem step_append_empty {ops : Array Oper} {o : Oper} {a : Act} {w : World} {K : Act → World → Prop} {Q : Exit → Act → World → Prop} {E : Prop} (hgd : o.guard = none) (s x : Operand) (tx : TypeId)
    (ho : o.op = .call { callee := .builtin .append, args := #[s, x], argTypes := #[27, tx] })
    {m k : Nat} {xv : Value} {g : Nat → BitVec 8} (hs : a.eval s = .slice (some ⟨k, 0, none⟩) 0 0) (hx : a.eval x = xv) (hsrc : Src Try.prog 1 tx xv m (firsts g m) w) (hnm : m ≤ 200000000000000)
    (hk : ∀ b c w', Below w.heap.size w w' → BytesIn w' b m g → m ≤ c → c ≤ maxLen → K (a.put o.dst (.slice b m c)) w') : if Region.wanted o (yielded ops a.tmps) = true then Oper.wp Try.prog o a w K Q else E := by
  have hw : Region.wanted o (yielded ops a.tmps) = true := by simp [Region.wanted, hgd]
  rw [if_pos hw]
  obtain ⟨b, c, w', hr, h1, h2, h3, h4⟩ := run_append_empty o.type k m xv g w hsrc hnm
  unfold Oper.wp execOp
  simp only [ho, resolve, invoke, builtin, Sem.run_bind, Sem.run_pure, Result.andThen_ok, List.map_toArray, List.map_cons, List.map_nil, hs, hx, hr]
  exact hk b c w' h1 h2 h3 h4
theorem conv_in (f : Nat → BitVec 8) (a : Option Addr) (m c : Nat) (w : World) (h : BytesIn w a m f) :
    (convert 27 9 (.slice a m c)).run Try.prog w = .ok (.string (strOf f m)) w := by
  rcases h.2 with rfl | ⟨b, o, rfl, _, hc⟩
  · have h1 : Try.prog.underlying 27 = some (.slice 5) := by kernel_rfl
    have h2 : Try.prog.underlying 9 = some .string := by kernel_rfl
    have h3 : Try.prog.underlying 5 = some (.int .u8) := by kernel_rfl
    cases a with
    | none =>
      simp [convert, run_underlying h1, run_underlying h2, run_underlying h3, Sem.run_bind]
      rfl
    | some x =>
      have h := run_convert_bytes_back (P := Try.prog) w 27 9 5 x c [] (by kernel_rfl) (by kernel_rfl) (by kernel_rfl) (fun j hj => by simp at hj)
      exact h
  · exact conv_str f b o m c w hc
theorem in_less {w : World} {a : Option Addr} {n k : Nat} {f : Nat → BitVec 8} (h : BytesIn w a n f) (hk : k ≤ n) : BytesIn w a k f :=
  ⟨Nat.le_trans hk h.1, by
    rcases h.2 with h0 | ⟨b, o, e, hl, hc⟩
    · exact .inl (by omega)
    · exact .inr ⟨b, o, e, hl, fun i hi => hc i (by omega)⟩⟩
theorem below_alloc {w0 w : World} (h : Below w0.heap.size w0 w) (o : Obj) : Below w0.heap.size w0 (w.alloc o) := h.alloc h.size o
theorem below_step {w0 w w' : World} (h : Below w0.heap.size w0 w) (h2 : Below w.heap.size w w') : Below w0.heap.size w0 w' := h.trans (h2.mono h.size)
theorem min_of (n : Nat) : ∃ m : Nat, m ≤ 600 ∧ m ≤ n ∧ ((m = n ∧ n ≤ 600) ∨ (m = 600 ∧ 600 < n)) := by
  by_cases h : n ≤ 600
  · exact ⟨n, h, Nat.le_refl _, .inl ⟨rfl, h⟩⟩
  · exact ⟨600, Nat.le_refl _, by omega, .inr ⟨rfl, by omega⟩⟩
set_option maxHeartbeats 16000000 in
set_option maxRecDepth 100000 in
theorem open_any (key f1 f2 f3 : Nat → BitVec 8) (a1 a2 a3 : Option Addr) (n1 c1 n2 c2 n3 c3 : Nat) (w : World) (h1 : BytesIn w a1 n1 f1) (hc1 : n1 ≤ c1) (hm1 : c1 ≤ maxLen) (hz1 : n1 ≤ 140737488355328)
    (h2 : BytesIn w a2 n2 f2) (hc2 : n2 ≤ c2) (hm2 : c2 ≤ maxLen) (h3 : BytesIn w a3 n3 f3) (hc3 : n3 ≤ c3) (hm3 : c3 ≤ maxLen) :
    Calls Try.prog 7 #[.agg (letterC key (.slice a1 n1 c1) (.slice a2 n2 c2) (.slice a3 n3 c3))] w fun e w' => e = .returned (.bool true) ∧ Below w.heap.size w w' := by
  obtain ⟨m2, hk2, hkn2, M2⟩ := min_of n2
  obtain ⟨m3, hk3, hkn3, M3⟩ := min_of n3
  have H1 := Lib.hid h1
  have H2 := Lib.hid (in_less h2 hkn2)
  have H3 := Lib.hid (in_less h3 hkn3)
  have MM2 := Lib.hid M2
  have MM3 := Lib.hid M3
  have hc2' : c2 ≤ 9223372036854775807 := by unfold maxLen at hm2; omega
  have hc3' : c3 ≤ 9223372036854775807 := by unfold maxLen at hm3; omega
  clear h1 h2 h3 hm1 hm2 hm3 hc1 M2 M3
  go_enter Try.func7, Try.ntmps7
  go_wp2_with fail
  have row := heap_alloc_last w (.cells (letterC key (.slice a1 n1 c1) (.slice a2 n2 c2) (.slice a3 n3 c3)) 44)
  have bel := (Below.refl w.heap.size w).alloc (Nat.le_refl _) (.cells (letterC key (.slice a1 n1 c1) (.slice a2 n2 c2) (.slice a3 n3 c3)) 44)
  generalize hW : w.alloc _ = wa at *
  clear hW
  have RowC := Lib.hid row
  have BelC := Lib.hid bel
  clear row bel
  have cellsX := Lib.hid (fun (w' : World) (hb : Below wa.heap.size wa w') => (show w'.cell? ⟨w.heap.size, 16, none⟩ = some (.slice a1 n1 c1) ∧ w'.cell? ⟨w.heap.size, 17, none⟩ = some (.slice a2 n2 c2) ∧ w'.cell? ⟨w.heap.size, 18, none⟩ = some (.slice a3 n3 c3) from by
    have r := (hb.block _ (lt_of_heap RowC.out)).trans RowC.out
    refine ⟨?_, ?_, ?_⟩
    · rw [cell_of_row _ _ _ _ _ _ r]; exact letter_1 _ _ _ _
    · rw [cell_of_row _ _ _ _ _ _ r]; exact letter_2 _ _ _ _
    · rw [cell_of_row _ _ _ _ _ _ r]; exact letter_3 _ _ _ _))
  refine (gnew_ok key w.heap.size 0 16 wa (fun i hi => by rw [cell_of_row _ _ _ _ _ _ RowC.out, Nat.zero_add]; exact letter_key _ _ _ _ i hi) (lt_of_heap RowC.out)).mono ?_
  rintro e w1 ⟨p, q, rfl, _, hb1, bx1⟩
  have HB1 := Lib.hid hb1
  have BX1 := Lib.hid bx1
  clear hb1 bx1
  go_wp2_with fail
  refine (sealed_any _).mono ?_
  rintro e w2 ⟨rfl, hb2⟩
  have HB2 := Lib.hid (HB1.out.trans (hb2.mono HB1.out.size))
  have BX2 := Lib.hid (BX1.out.later hb2)
  clear hb2 HB1 BX1
  have hE := Own.empty (B := w2.heap.size) f1 w2 (Nat.le_refl _)
  have hb3 := HB2.out.alloc HB2.out.size (.cells #[] 5)
  have S1 := Lib.hid (src_in (bytesIn_later H1.out (BelC.out.trans (hb3.mono BelC.out.size))) c1)
  have E1 := Lib.hid hE
  obtain ⟨d1, d2, d3⟩ := cellsX.out _ hb3
  clear hE hb3
  go_upto_region 5 with (first
    | (at_builtin; refine wpList_append_bytes (o := ⟨some 27, _, _, _, _, _⟩) rfl _ _ 27 rfl rfl rfl E1.out S1.out (by omega) ?_; intro v3 w3 ho3 hg3; rw [Nat.zero_add] at ho3)
    | (at_builtin; refine wpList_append_zeros (o := ⟨some 28, _, _, _, _, _⟩) rfl _ _ rfl rfl rfl ho3 (by omega) ?_; intro v4 w4 ho4 hg4; obtain ⟨gb, gc, rfl, hgc, hgm, hgin⟩ := ho4.bytesIn (by omega); have su : ∀ w', (Instr.sliceAt 27 (.slice (some ⟨gb, 0, none⟩) (n1 + 12) gc) none (some (.int .i64 12)) none).run Try.prog w' = .ok (.slice (some ⟨gb, 0, none⟩) 12 gc) w' := fun w' => run_upto_b w' (some ⟨gb, 0, none⟩) 12 (n1 + 12) gc (by omega) hgc))
  have hb24 : Below w2.heap.size w2 w4 := (((Below.refl w2.heap.size w2).alloc (Nat.le_refl _) (.cells #[] 5)).trans (hg3.below E1.out)).trans (hg4.below ho3)
  obtain h0 | ⟨gb', go', he, hgl, hgc'⟩ := hgin.2
  · omega
  cases he
  generalize joinb (joinb f1 0 f1) n1 (fun _ => 0#8) = F at *
  have NC := Lib.hid (fun (i : Nat) (hi : i < 12) => hgc' i (by omega))
  have NL := Lib.hid hgl
  have HB4 := Lib.hid (HB2.out.trans (hb24.mono HB2.out.size))
  have BX4 := Lib.hid (BX2.out.later hb24)
  clear hb24 hgin hgc' hgl ho4 hg4 ho3 hg3 su S1 E1 d1 d2 d3 hgc hgm BX2 HB2
  obtain ⟨d1, d2, d3⟩ := cellsX.out w4 HB4.out
  have B4 : Below w4.heap.size w4 w4 := Below.refl _ _
  have KX := Lib.hid (fun (w' : World) (hb : Below w4.heap.size w4 w') => (show w'.cell? ⟨w.heap.size, 17, none⟩ = some (.slice a2 n2 c2) ∧ w'.cell? ⟨w.heap.size, 18, none⟩ = some (.slice a3 n3 c3) from ⟨(cellsX.out w' (HB4.out.trans (hb.mono HB4.out.size))).2.1, (cellsX.out w' (HB4.out.trans (hb.mono HB4.out.size))).2.2⟩))
  have SX2 := Lib.hid (fun (w' : World) (hb : Below w4.heap.size w4 w') => src_in (bytesIn_later H2.out (BelC.out.trans ((HB4.out.trans (hb.mono HB4.out.size)).mono BelC.out.size))) c2)
  have SX3 := Lib.hid (fun (w' : World) (hb : Below w4.heap.size w4 w') => src_in (bytesIn_later H3.out (BelC.out.trans ((HB4.out.trans (hb.mono HB4.out.size)).mono BelC.out.size))) c3)
  go_upto_region 5 with (fail)
  go_cut [6, 7] (fun v6 v7 wx => ∃ b6 c6 b7 c7, v6 = .slice b6 m2 c6 ∧ v7 = .slice b7 m3 c7 ∧ BytesIn wx b6 m2 f2 ∧ m2 ≤ c6 ∧ c6 ≤ maxLen ∧ BytesIn wx b7 m3 f3 ∧ m3 ≤ c7 ∧ c7 ≤ maxLen ∧ Below w4.heap.size w4 wx)
  case first =>
    have hn2I : m2 ≤ 200000000000000 := by omega
    have hn3I : m3 ≤ 200000000000000 := by omega
    have su2 := fun w' => run_upto_b w' a2 m2 n2 c2 hkn2 hc2
    have su3 := fun w' => run_upto_b w' a3 m3 n3 c3 hkn3 hc3
    refine wp_region_held_drew (S := (fun w' => w'.cell? ⟨w.heap.size, 17, none⟩ = some (.slice a2 n2 c2) ∧ w'.cell? ⟨w.heap.size, 18, none⟩ = some (.slice a3 n3 c3))) (by kernel_rfl) (KX.out _ B4.drew) (fun hHeld => ?_)
    refine wpAnyH_take (i := 1) (oi := ⟨some 31, _, _, _, _, _⟩) (v := .pointer (some ⟨w.heap.size, 17, none⟩)) rfl (by kernel_rfl) (by kernel_rfl) (by kernel_rfl) (fun _ _ _ h => h) (Or.inl ⟨by rfl, ?_⟩) (by assumption) ?_
    · intro w' hSw
      try dsimp only at hSw
      go_simp
      try (with_reducible rfl)
    try simp only [Act.put, List.setIfInBounds_toArray, List.set_cons_zero, List.set_cons_succ]
    refine wpAnyH_take (i := 2) (oi := ⟨some 32, _, _, _, _, _⟩) (v := .slice a2 n2 c2) rfl (by kernel_rfl) (by kernel_rfl) (by kernel_rfl) (fun _ _ _ h => h) (Or.inl ⟨by rfl, ?_⟩) (by assumption) ?_
    · intro w' hSw
      try dsimp only at hSw
      go_simp
      try (with_reducible rfl)
    try simp only [Act.put, List.setIfInBounds_toArray, List.set_cons_zero, List.set_cons_succ]
    refine wpAnyH_take (i := 3) (oi := ⟨some 33, _, _, _, _, _⟩) (v := .pointer (some ⟨w.heap.size, 17, none⟩)) rfl (by kernel_rfl) (by kernel_rfl) (by kernel_rfl) (fun _ _ _ h => h) (Or.inl ⟨by rfl, ?_⟩) (by assumption) ?_
    · intro w' hSw
      try dsimp only at hSw
      go_simp
      try (with_reducible rfl)
    try simp only [Act.put, List.setIfInBounds_toArray, List.set_cons_zero, List.set_cons_succ]
    refine wpAnyH_take (i := 4) (oi := ⟨some 34, _, _, _, _, _⟩) (v := .slice a2 n2 c2) rfl (by kernel_rfl) (by kernel_rfl) (by kernel_rfl) (fun _ _ _ h => h) (Or.inl ⟨by rfl, ?_⟩) (by assumption) ?_
    · intro w' hSw
      try dsimp only at hSw
      go_simp
      try (with_reducible rfl)
    try simp only [Act.put, List.setIfInBounds_toArray, List.set_cons_zero, List.set_cons_succ]
    refine wpAnyH_take (i := 5) (oi := ⟨some 35, _, _, _, _, _⟩) (v := .int .i64 (n2 : Int)) rfl (by kernel_rfl) (by kernel_rfl) (by kernel_rfl) (fun _ _ _ h => h) (Or.inl ⟨by rfl, ?_⟩) (by assumption) ?_
    · intro w' hSw
      try dsimp only at hSw
      go_simp
      try (with_reducible rfl)
    try simp only [Act.put, List.setIfInBounds_toArray, List.set_cons_zero, List.set_cons_succ]
    refine wpAnyH_take (i := 6) (oi := ⟨some 36, _, _, _, _, _⟩) (v := .int .i64 (m2 : Int)) rfl (by kernel_rfl) (by kernel_rfl) (by kernel_rfl) (fun _ _ _ h => h) (Or.inl ⟨by rfl, ?_⟩) (by assumption) ?_
    · intro w' _
      rcases MM2.out with ⟨e, hl⟩ | ⟨e, hl⟩
      · have i2 : ¬ (600 : Int) < (n2 : Int) := by omega
        have j2 : (n2 : Int) ≤ 600 := by omega
        rw [e]
        go_simp
      · have i2 : (600 : Int) < (n2 : Int) := by omega
        have j2 : ¬ (n2 : Int) ≤ 600 := by omega
        rw [e]
        go_simp
    try simp only [Act.put, List.setIfInBounds_toArray, List.set_cons_zero, List.set_cons_succ]
    refine wpAnyH_take (i := 7) (oi := ⟨some 37, _, _, _, _, _⟩) (v := .slice a2 m2 c2) rfl (by kernel_rfl) (by kernel_rfl) (by kernel_rfl) (fun _ _ _ h => h) (Or.inl ⟨by rfl, ?_⟩) (by assumption) ?_
    · intro w' hSw
      try dsimp only at hSw
      go_simp
      try (with_reducible rfl)
    try simp only [Act.put, List.setIfInBounds_toArray, List.set_cons_zero, List.set_cons_succ]
    refine wpAnyH_take (i := 10) (oi := ⟨some 40, _, _, _, _, _⟩) (v := .pointer (some ⟨w.heap.size, 18, none⟩)) rfl (by kernel_rfl) (by kernel_rfl) (by kernel_rfl) (fun _ _ _ h => h) (Or.inl ⟨by rfl, ?_⟩) (by assumption) ?_
    · intro w' hSw
      try dsimp only at hSw
      go_simp
      try (with_reducible rfl)
    try simp only [Act.put, List.setIfInBounds_toArray, List.set_cons_zero, List.set_cons_succ]
    refine wpAnyH_take (i := 11) (oi := ⟨some 41, _, _, _, _, _⟩) (v := .slice a3 n3 c3) rfl (by kernel_rfl) (by kernel_rfl) (by kernel_rfl) (fun _ _ _ h => h) (Or.inl ⟨by rfl, ?_⟩) (by assumption) ?_
    · intro w' hSw
      try dsimp only at hSw
      go_simp
      try (with_reducible rfl)
    try simp only [Act.put, List.setIfInBounds_toArray, List.set_cons_zero, List.set_cons_succ]
    refine wpAnyH_take (i := 12) (oi := ⟨some 42, _, _, _, _, _⟩) (v := .pointer (some ⟨w.heap.size, 18, none⟩)) rfl (by kernel_rfl) (by kernel_rfl) (by kernel_rfl) (fun _ _ _ h => h) (Or.inl ⟨by rfl, ?_⟩) (by assumption) ?_
    · intro w' hSw
      try dsimp only at hSw
      go_simp
      try (with_reducible rfl)
    try simp only [Act.put, List.setIfInBounds_toArray, List.set_cons_zero, List.set_cons_succ]
    refine wpAnyH_take (i := 13) (oi := ⟨some 43, _, _, _, _, _⟩) (v := .slice a3 n3 c3) rfl (by kernel_rfl) (by kernel_rfl) (by kernel_rfl) (fun _ _ _ h => h) (Or.inl ⟨by rfl, ?_⟩) (by assumption) ?_
    · intro w' hSw
      try dsimp only at hSw
      go_simp
      try (with_reducible rfl)
    try simp only [Act.put, List.setIfInBounds_toArray, List.set_cons_zero, List.set_cons_succ]
    refine wpAnyH_take (i := 14) (oi := ⟨some 44, _, _, _, _, _⟩) (v := .int .i64 (n3 : Int)) rfl (by kernel_rfl) (by kernel_rfl) (by kernel_rfl) (fun _ _ _ h => h) (Or.inl ⟨by rfl, ?_⟩) (by assumption) ?_
    · intro w' hSw
      try dsimp only at hSw
      go_simp
      try (with_reducible rfl)
    try simp only [Act.put, List.setIfInBounds_toArray, List.set_cons_zero, List.set_cons_succ]
    refine wpAnyH_take (i := 15) (oi := ⟨some 45, _, _, _, _, _⟩) (v := .int .i64 (m3 : Int)) rfl (by kernel_rfl) (by kernel_rfl) (by kernel_rfl) (fun _ _ _ h => h) (Or.inl ⟨by rfl, ?_⟩) (by assumption) ?_
    · intro w' _
      rcases MM3.out with ⟨e, hl⟩ | ⟨e, hl⟩
      · have i2 : ¬ (600 : Int) < (n3 : Int) := by omega
        have j2 : (n3 : Int) ≤ 600 := by omega
        rw [e]
        go_simp
      · have i2 : (600 : Int) < (n3 : Int) := by omega
        have j2 : ¬ (n3 : Int) ≤ 600 := by omega
        rw [e]
        go_simp
    try simp only [Act.put, List.setIfInBounds_toArray, List.set_cons_zero, List.set_cons_succ]
    refine wpAnyH_take (i := 16) (oi := ⟨some 46, _, _, _, _, _⟩) (v := .slice a3 m3 c3) rfl (by kernel_rfl) (by kernel_rfl) (by kernel_rfl) (fun _ _ _ h => h) (Or.inl ⟨by rfl, ?_⟩) (by assumption) ?_
    · intro w' hSw
      try dsimp only at hSw
      go_simp
      try (with_reducible rfl)
    try simp only [Act.put, List.setIfInBounds_toArray, List.set_cons_zero, List.set_cons_succ]
    refine wpAnyH_ready (rs := [0, 9]) (by kernel_rfl) (by simp) ?_
    refine AllReadyH.cons (i := 0) rfl (fun K hK => ?_) ?_
    · go_simp
      refine hK.out _ _ (KX.out _ (by (repeat (first | assumption | apply Below.drew | apply below_alloc)))) (fun hHeld => ?_)
      clear hK K
      try simp only [Act.put, List.setIfInBounds_toArray, List.set_cons_zero, List.set_cons_succ]
      refine wpAnyH_ready (rs := [8, 9]) (by kernel_rfl) (by simp) ?_
      refine AllReadyH.cons (i := 8) rfl (fun K hK => ?_) ?_
      · refine step_append_empty (o := ⟨some 38, _, _, _, _, _⟩) (by rfl) _ _ 27 (by rfl) (by rfl) (by rfl) (SX2.out _ (by (repeat (first | assumption | apply Below.drew | apply below_alloc)))) hn2I ?_
        intro b6 c6 w6 hb6 hi6 hc6 hm6
        have hx6 := below_step (w0 := w4) (by (repeat (first | assumption | apply Below.drew | apply below_alloc))) hb6
        refine hK.out _ _ (KX.out _ (by (repeat (first | assumption | apply Below.drew | apply below_alloc)))) (fun hHeld => ?_)
        clear hK K
        try simp only [Act.put, List.setIfInBounds_toArray, List.set_cons_zero, List.set_cons_succ]
        refine wpAnyH_ready (rs := [9]) (by kernel_rfl) (by simp) ?_
        refine AllReadyH.cons (i := 9) rfl (fun K hK => ?_) ?_
        · go_simp
          refine hK.out _ _ (KX.out _ (by (repeat (first | assumption | apply Below.drew | apply below_alloc)))) (fun hHeld => ?_)
          clear hK K
          try simp only [Act.put, List.setIfInBounds_toArray, List.set_cons_zero, List.set_cons_succ]
          refine wpAnyH_ready (rs := [17]) (by kernel_rfl) (by simp) ?_
          refine AllReadyH.cons (i := 17) rfl (fun K hK => ?_) ?_
          · refine step_append_empty (o := ⟨some 47, _, _, _, _, _⟩) (by rfl) _ _ 27 (by rfl) (by rfl) (by rfl) (SX3.out _ (by (repeat (first | assumption | apply Below.drew | apply below_alloc)))) hn3I ?_
            intro b7 c7 w7 hb7 hi7 hc7 hm7
            have hx7 := below_step (w0 := w4) (by (repeat (first | assumption | apply Below.drew | apply below_alloc))) hb7
            refine hK.out _ _ (KX.out _ (by (repeat (first | assumption | apply Below.drew | apply below_alloc)))) (fun hHeld => ?_)
            clear hK K
            try simp only [Act.put, List.setIfInBounds_toArray, List.set_cons_zero, List.set_cons_succ]
            refine wpAnyH_take (i := 18) (oi := ⟨some 6, _, _, _, _, _⟩) (v := .slice b6 m2 c6) rfl (by kernel_rfl) (by kernel_rfl) (by kernel_rfl) (fun _ _ _ h => h) (Or.inl ⟨by rfl, fun _ _ => by rfl⟩) (by assumption) ?_
            try simp only [Act.put, List.setIfInBounds_toArray, List.set_cons_zero, List.set_cons_succ]
            refine wpAnyH_take (i := 19) (oi := ⟨some 7, _, _, _, _, _⟩) (v := .slice b7 m3 c7) rfl (by kernel_rfl) (by kernel_rfl) (by kernel_rfl) (fun _ _ _ h => h) (Or.inl ⟨by rfl, fun _ _ => by rfl⟩) (by assumption) ?_
            try simp only [Act.put, List.setIfInBounds_toArray, List.set_cons_zero, List.set_cons_succ]
            refine wpAnyH_done (by kernel_rfl) ?_ _
            go_wp2_with fail
            go_meet
            exact ⟨b6, c6, b7, c7, rfl, rfl, bytesIn_later hi6 (by (repeat (first | assumption | exact Below.refl _ _ | apply Below.drew | apply below_alloc | (refine below_step ?_ hb6) | (refine below_step ?_ hb7)))), hc6, hm6, bytesIn_later hi7 (by (repeat (first | assumption | exact Below.refl _ _ | apply Below.drew | apply below_alloc | (refine below_step ?_ hb6) | (refine below_step ?_ hb7)))), hc7, hm7, (by (repeat (first | assumption | apply Below.drew | apply below_alloc)))⟩
          exact AllReadyH.nil
        exact AllReadyH.nil
      refine AllReadyH.cons (i := 9) rfl (fun K hK => ?_) ?_
      · go_simp
        refine hK.out _ _ (KX.out _ (by (repeat (first | assumption | apply Below.drew | apply below_alloc)))) (fun hHeld => ?_)
        clear hK K
        try simp only [Act.put, List.setIfInBounds_toArray, List.set_cons_zero, List.set_cons_succ]
        refine wpAnyH_ready (rs := [8]) (by kernel_rfl) (by simp) ?_
        refine AllReadyH.cons (i := 8) rfl (fun K hK => ?_) ?_
        · refine step_append_empty (o := ⟨some 38, _, _, _, _, _⟩) (by rfl) _ _ 27 (by rfl) (by rfl) (by rfl) (SX2.out _ (by (repeat (first | assumption | apply Below.drew | apply below_alloc)))) hn2I ?_
          intro b6 c6 w6 hb6 hi6 hc6 hm6
          have hx6 := below_step (w0 := w4) (by (repeat (first | assumption | apply Below.drew | apply below_alloc))) hb6
          refine hK.out _ _ (KX.out _ (by (repeat (first | assumption | apply Below.drew | apply below_alloc)))) (fun hHeld => ?_)
          clear hK K
          try simp only [Act.put, List.setIfInBounds_toArray, List.set_cons_zero, List.set_cons_succ]
          refine wpAnyH_ready (rs := [17]) (by kernel_rfl) (by simp) ?_
          refine AllReadyH.cons (i := 17) rfl (fun K hK => ?_) ?_
          · refine step_append_empty (o := ⟨some 47, _, _, _, _, _⟩) (by rfl) _ _ 27 (by rfl) (by rfl) (by rfl) (SX3.out _ (by (repeat (first | assumption | apply Below.drew | apply below_alloc)))) hn3I ?_
            intro b7 c7 w7 hb7 hi7 hc7 hm7
            have hx7 := below_step (w0 := w4) (by (repeat (first | assumption | apply Below.drew | apply below_alloc))) hb7
            refine hK.out _ _ (KX.out _ (by (repeat (first | assumption | apply Below.drew | apply below_alloc)))) (fun hHeld => ?_)
            clear hK K
            try simp only [Act.put, List.setIfInBounds_toArray, List.set_cons_zero, List.set_cons_succ]
            refine wpAnyH_take (i := 18) (oi := ⟨some 6, _, _, _, _, _⟩) (v := .slice b6 m2 c6) rfl (by kernel_rfl) (by kernel_rfl) (by kernel_rfl) (fun _ _ _ h => h) (Or.inl ⟨by rfl, fun _ _ => by rfl⟩) (by assumption) ?_
            try simp only [Act.put, List.setIfInBounds_toArray, List.set_cons_zero, List.set_cons_succ]
            refine wpAnyH_take (i := 19) (oi := ⟨some 7, _, _, _, _, _⟩) (v := .slice b7 m3 c7) rfl (by kernel_rfl) (by kernel_rfl) (by kernel_rfl) (fun _ _ _ h => h) (Or.inl ⟨by rfl, fun _ _ => by rfl⟩) (by assumption) ?_
            try simp only [Act.put, List.setIfInBounds_toArray, List.set_cons_zero, List.set_cons_succ]
            refine wpAnyH_done (by kernel_rfl) ?_ _
            go_wp2_with fail
            go_meet
            exact ⟨b6, c6, b7, c7, rfl, rfl, bytesIn_later hi6 (by (repeat (first | assumption | exact Below.refl _ _ | apply Below.drew | apply below_alloc | (refine below_step ?_ hb6) | (refine below_step ?_ hb7)))), hc6, hm6, bytesIn_later hi7 (by (repeat (first | assumption | exact Below.refl _ _ | apply Below.drew | apply below_alloc | (refine below_step ?_ hb6) | (refine below_step ?_ hb7)))), hc7, hm7, (by (repeat (first | assumption | apply Below.drew | apply below_alloc)))⟩
          exact AllReadyH.nil
        exact AllReadyH.nil
      exact AllReadyH.nil
    refine AllReadyH.cons (i := 9) rfl (fun K hK => ?_) ?_
    · go_simp
      refine hK.out _ _ (KX.out _ (by (repeat (first | assumption | apply Below.drew | apply below_alloc)))) (fun hHeld => ?_)
      clear hK K
      try simp only [Act.put, List.setIfInBounds_toArray, List.set_cons_zero, List.set_cons_succ]
      refine wpAnyH_ready (rs := [0]) (by kernel_rfl) (by simp) ?_
      refine AllReadyH.cons (i := 0) rfl (fun K hK => ?_) ?_
      · go_simp
        refine hK.out _ _ (KX.out _ (by (repeat (first | assumption | apply Below.drew | apply below_alloc)))) (fun hHeld => ?_)
        clear hK K
        try simp only [Act.put, List.setIfInBounds_toArray, List.set_cons_zero, List.set_cons_succ]
        refine wpAnyH_ready (rs := [8]) (by kernel_rfl) (by simp) ?_
        refine AllReadyH.cons (i := 8) rfl (fun K hK => ?_) ?_
        · refine step_append_empty (o := ⟨some 38, _, _, _, _, _⟩) (by rfl) _ _ 27 (by rfl) (by rfl) (by rfl) (SX2.out _ (by (repeat (first | assumption | apply Below.drew | apply below_alloc)))) hn2I ?_
          intro b6 c6 w6 hb6 hi6 hc6 hm6
          have hx6 := below_step (w0 := w4) (by (repeat (first | assumption | apply Below.drew | apply below_alloc))) hb6
          refine hK.out _ _ (KX.out _ (by (repeat (first | assumption | apply Below.drew | apply below_alloc)))) (fun hHeld => ?_)
          clear hK K
          try simp only [Act.put, List.setIfInBounds_toArray, List.set_cons_zero, List.set_cons_succ]
          refine wpAnyH_ready (rs := [17]) (by kernel_rfl) (by simp) ?_
          refine AllReadyH.cons (i := 17) rfl (fun K hK => ?_) ?_
          · refine step_append_empty (o := ⟨some 47, _, _, _, _, _⟩) (by rfl) _ _ 27 (by rfl) (by rfl) (by rfl) (SX3.out _ (by (repeat (first | assumption | apply Below.drew | apply below_alloc)))) hn3I ?_
            intro b7 c7 w7 hb7 hi7 hc7 hm7
            have hx7 := below_step (w0 := w4) (by (repeat (first | assumption | apply Below.drew | apply below_alloc))) hb7
            refine hK.out _ _ (KX.out _ (by (repeat (first | assumption | apply Below.drew | apply below_alloc)))) (fun hHeld => ?_)
            clear hK K
            try simp only [Act.put, List.setIfInBounds_toArray, List.set_cons_zero, List.set_cons_succ]
            refine wpAnyH_take (i := 18) (oi := ⟨some 6, _, _, _, _, _⟩) (v := .slice b6 m2 c6) rfl (by kernel_rfl) (by kernel_rfl) (by kernel_rfl) (fun _ _ _ h => h) (Or.inl ⟨by rfl, fun _ _ => by rfl⟩) (by assumption) ?_
            try simp only [Act.put, List.setIfInBounds_toArray, List.set_cons_zero, List.set_cons_succ]
            refine wpAnyH_take (i := 19) (oi := ⟨some 7, _, _, _, _, _⟩) (v := .slice b7 m3 c7) rfl (by kernel_rfl) (by kernel_rfl) (by kernel_rfl) (fun _ _ _ h => h) (Or.inl ⟨by rfl, fun _ _ => by rfl⟩) (by assumption) ?_
            try simp only [Act.put, List.setIfInBounds_toArray, List.set_cons_zero, List.set_cons_succ]
            refine wpAnyH_done (by kernel_rfl) ?_ _
            go_wp2_with fail
            go_meet
            exact ⟨b6, c6, b7, c7, rfl, rfl, bytesIn_later hi6 (by (repeat (first | assumption | exact Below.refl _ _ | apply Below.drew | apply below_alloc | (refine below_step ?_ hb6) | (refine below_step ?_ hb7)))), hc6, hm6, bytesIn_later hi7 (by (repeat (first | assumption | exact Below.refl _ _ | apply Below.drew | apply below_alloc | (refine below_step ?_ hb6) | (refine below_step ?_ hb7)))), hc7, hm7, (by (repeat (first | assumption | apply Below.drew | apply below_alloc)))⟩
          exact AllReadyH.nil
        exact AllReadyH.nil
      exact AllReadyH.nil
    exact AllReadyH.nil
  case rest =>
    obtain ⟨b6, c6, b7, c7, rfl, rfl, hi6, hc6, hm6, hi7, hc7, hm7, hbx⟩ := hcut
    have HBx := Lib.hid hbx
    have I6 := Lib.hid hi6
    have I7 := Lib.hid hi7
    have M6 := Lib.hid hm6
    have BX5 := Lib.hid (BX4.out.later hbx)
    have SK1 := Lib.hid (gseal_ok p q (sched key) (hOf (sched key)) F f2 f3 gb 0 gc b6 b7 m2 c6 m3 c7 wc BX5.out (fun i hi => by rw [hbx.cell (p := ⟨gb, 0 + i, none⟩) NL.out]; exact NC.out i hi) (Nat.lt_of_lt_of_le NL.out hbx.size) hi6 hc6 hm6 hi7 (by omega))
    have HW := Lib.hid (BelC.out.trans ((HB4.out.trans (hbx.mono HB4.out.size)).mono BelC.out.size))
    have HA := Lib.hid (HB4.out.trans (hbx.mono HB4.out.size))
    have HC6 := Lib.hid hc6
    clear hi6 hi7 hm6 hm7 hbx hc6
    go_wp2_with fail
    with_reducible refine SK1.out.mono ?_
    rintro e w5 ⟨v5, rfl, own5, hb5⟩
    obtain ⟨g5, q5, rfl, hq5, hqm5, hin5⟩ := own5.bytesIn (by omega)
    have OE := openE_sealed (sched key) (hOf (sched key)) F f2 m2 f3 m3
    have HH := Lib.hid (fun i hi => hid_hid (sched key) (hOf (sched key)) F f2 m2 f3 m3 i hi)
    generalize sealF (sched key) (hOf (sched key)) F f2 m2 f3 m3 = C at *
    have HB5 := Lib.hid hb5
    have I5 := Lib.hid hin5
    have OK := Lib.hid (gopen_ok p q (sched key) (hOf (sched key)) F f2 C gb 0 gc b6 (some ⟨g5, 0, none⟩) m2 c6 m3 q5 w5 (BX5.out.later hb5) (fun i hi => by rw [hb5.cell (p := ⟨gb, 0 + i, none⟩) (Nat.lt_of_lt_of_le NL.out HBx.out.size), HBx.out.cell (p := ⟨gb, 0 + i, none⟩) NL.out]; exact NC.out i hi) (Nat.lt_of_lt_of_le NL.out (Nat.le_trans HBx.out.size hb5.size)) (bytesIn_later I6.out hb5) HC6.out M6.out hin5 hq5 (by omega) hqm5)
    have cv := conv_in C (some ⟨g5, 0, none⟩) (m3 + 16) q5 w5 hin5
    clear own5 hb5 hin5 SK1
    go_wp2_with fail
    clear cv
    with_reducible refine OK.out.mono ?_
    rintro e w6 ⟨hb6, hr⟩
    rcases hr with ⟨_, r, rfl, hr6, row6⟩ | ⟨hf, _⟩
    case inr => rw [OE] at hf; cases hf
    have hb56 := HB5.out.trans (hb6.mono HB5.out.size)
    have c5 := conv_in C (some ⟨g5, 0, none⟩) (m3 + 16) q5 w6.drew (bytesIn_later I5.out hb6.drew)
    have c6' := conv_in f2 b6 m2 c6 w6.drew (bytesIn_later I6.out hb56.drew)
    have c7' := conv_in f3 b7 m3 c7 w6.drew (bytesIn_later I7.out hb56.drew)
    have hall := HW.out.trans (hb56.mono HW.out.size)
    have a2' := conv_in f2 a2 m2 c2 w6.drew (bytesIn_later H2.out hall.drew)
    have a3' := conv_in f3 a3 m3 c3 w6.drew (bytesIn_later H3.out hall.drew)
    have cr := conv_str (hid (sched key) F C) r 0 m3 m3 w6.drew (fun i hi => by rw [Nat.zero_add]; show w6.cell? _ = _; rw [cell_of_row _ _ _ _ _ _ row6]; exact bytesArr_get _ _ _ hi)
    rw [(strOf_eq (hid (sched key) F C) f3 m3).2 HH.out] at cr
    obtain ⟨d1, d2, d3⟩ := cellsX.out w6.drew ((HA.out.trans (hb56.mono HA.out.size)).drew)
    have su2 := fun w' => run_upto_b w' a2 m2 n2 c2 hkn2 hc2
    have su3 := fun w' => run_upto_b w' a3 m3 n3 c3 hkn3 hc3
    have HL := Lib.hid hall
    have i1 : ((m3 : Int) + 16 == (m3 : Int) + 16) = true := by simp
    generalize strOf C (m3 + 16) = T1 at *
    generalize strOf f2 m2 = T2 at *
    generalize strOf f3 m3 = T3 at *
    clear hall hb6 hb56 row6 OK
    go_wp2_with fail
    refine region_quiet mixedOrders (by kernel_rfl) ?_
    repeat (go_big_quiet_step (fail))
    refine wpQuiet_nil ?_
    go_wp2_with fail
    go_ret
    exact ⟨by simp, HL.out.drew⟩
theorem walk {H : Type} {enc : TypeId × Value → H} (w : World) (base : Nat) (v0 : Value) (d0 : DataW H) (p0 : List MemPlace)
    (k0 : Value.okWide Try.prog w .any base 44 v0)
    (h0 : DataW.Trod enc Try.prog w 0 (fun _ => true) true 44 v0 d0 p0)
    (z0 : ∀ n ∈ DataW.weights Try.prog 44 d0, n ≤ reachBytes) :
    Calls Try.prog 7 #[v0] w fun e w' => e = .returned (.bool true) ∧ Below w.heap.size w w' := by
  obtain ⟨key, a1, n1, c1, f1, a2, n2, c2, f2, a3, n3, c3, f3, rfl, ⟨h1, hc1, hm1, hz1⟩, ⟨h2, hc2, hm2⟩, ⟨h3, hc3, hm3⟩⟩ := open_letter k0 h0 z0
  exact open_any key f1 f2 f3 a1 a2 a3 n1 c1 n2 c2 n3 c3 w h1 hc1 hm1 hz1 h2 hc2 hm2 h3 hc3 hm3
set_option maxRecDepth 100000 in
theorem lifted (os : Os) (started : os.Started) (H : Type) (enc : TypeId × Value → H) :
    ReturnsInHanded {} Try.checked os 7 .any (Rows.gcmOpenSpec.pre6 enc Try.prog Try.f7 Rows.gcmOpenRow.domain false) (Rows.gcmOpenSpec.post enc Try.prog Try.f7 false true false false) := by
  refine returnsInHanded_of_change_sized (C := Try.checked) own started (by kernel_rfl) Try.func7
    (ChangeSpec.witness6 (enc := enc) (C := Try.checked) false ⟨#[], #[.agg #[.int .u8 0, .int .u8 0, .int .u8 0, .int .u8 0, .int .u8 0, .int .u8 0, .int .u8 0, .int .u8 0, .int .u8 0, .int .u8 0, .int .u8 0, .int .u8 0, .int .u8 0, .int .u8 0, .int .u8 0, .int .u8 0, .slice none 0 0, .slice none 0 0, .slice none 0 0]], []⟩ 8 (by kernel_rfl) (by kernel_rfl) (by kernel_rfl) (by kernel_rfl)) ?_
  intro W base args ds gs before hval0 hW hcnd hsz0 _
  have hval : ∀ (j : Nat) t v, Try.f7.params[j]? = some t → args[j]? = some v → Value.okWide Try.prog W .any base t v := hval0
  have hW' := hW
  obtain ⟨p, q, hA0, hV, rfl, hfz, hnd⟩ := hW
  have hA : DataW.TrodAll enc Try.prog W 0 (fun _ => true) true Try.f7.params.toList args.toList ds p := hA0
  rw [Try.params7] at hA hval
  obtain ⟨v0, vs0, d0, ds0, p0, q0, hargs, rfl, rfl, h0, r0⟩ := trodAll_cons hA
  obtain ⟨rfl, rfl, rfl⟩ := trodAll_nil r0
  obtain rfl : args = #[v0] := by cases args; simp_all
  obtain ⟨rfl, rfl⟩ := trodVars_none hV
  have k0 := h0
  have lt0 : ∀ x ∈ p0, x.block < W.heap.size := by obtain ⟨m, hm⟩ := k0; exact DataW.trod_lt m _ _ _ hm
  have z0 : ∀ n ∈ DataW.weights Try.prog 44 d0, n ≤ reachBytes := fun n hn => by
    have h1 := List.all_eq_true.1 hsz0 n
    have h2 := h1 (by
      refine DataW.weights_mem_each (j := 0) (t := 44) (d := d0) ?_ ?_ n hn
      · rw [Try.params7]; rfl
      · rfl)
    simpa using h2
  clear hA0 hval0
  refine (walk W base v0 d0 p0 (hval 0 44 v0 rfl rfl) k0 z0).mono fun e W' ⟨he, bel⟩ => ?_
  subst he
  exact ⟨_, rfl, _, _, _, [], _, [], hW', trodAll_mk1 (shut_bool Try.underlying4 _), (trodAll_cons_mk (Below.trod laidOut (by kernel_rfl) (of_decide_eq_true (by kernel_rfl)) k0 bel lt0) trodAll_mk0), rfl, bel.frame _, fun h => by cases h⟩
theorem over : Rows.gcmOpenRow.holds Try.pinned (OpenSpec.ofChange Rows.gcmOpenSpec) :=
  OpenClaim.holds_of_wide 7 Try.f7 rfl rfl rfl rfl rfl rfl rfl ⟨rfl, rfl, rfl, rfl, rfl⟩ rfl rfl rfl rfl rfl (by kernel_rfl) Try.func7 (by kernel_rfl)
    (of_decide_eq_true (by kernel_rfl)) (by unfold Func.isWrapper; first | (rw [if_pos (by decide +kernel)]; kernel_rfl) | (rw [if_neg (by decide +kernel)]; exact ⟨rfl, rfl⟩))
    (fun os started H enc _ => lifted os started H enc)
theorem proved : Rows.GcmOpenSaid := over
end Go.Proofs.Ytpgneoodgoolpaa.gcmOpen
