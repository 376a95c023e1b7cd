/-
  Fewer bytes of a secret are the beginning of more, at the commit of COMMIT; the table of sha's constants holds what the program's text lays.
-/
import Derived.Test.YtbadcknchamimabDoorRows
import Derived.Test.YtbadcknchamimabDoorCards
import Derived.Test.YtbadcknchamimabDoorTie
import Derived.Test.YtbadcknchamimabDoorShaDoor
import Derived.Test.YtbadcknchamimabDoorHkdfC
import Derived.Test.YtbadcknchamimabDoorOpenB
import Derived.WalkKit
import Derived.ProofKit
import Derived.OpenShut
import Derived.ShutString
import Derived.ChangeOld
import Derived.Below
import Derived.Deep.DeepCutAuto
import Derived.Deep.Upon
import Derived.Deep.AppendSrc
import Derived.SevenTiedAt
import Derived.LaidMore
import Derived.SizedLaws
import Derived.Lib.SmallJoins
namespace Go.Proofs.YtbadcknchamimabDoor.hkdfFewer
open Go Go.ChangeShapes Go.WideShapes Go.ChangeAt Go.RowKit Go.BigFrame
set_option linter.unusedVariables false
set_option maxRecDepth 100000 in
theorem open_fewer {H : Type} {enc : TypeId × Value → H} {w : World} {base : Nat} {v : Value} {d : DataW H} {p : List MemPlace} (hk : Value.okWide Tryd.prog w .any base 36 v)
    (h : DataW.Trod enc Tryd.prog w 0 (fun _ => true) true 36 v d p) :
    ∃ a n c f a' n' c' g x y, v = .agg #[.slice a n c, .slice a' n' c', .int .i64 x, .int .i64 y] ∧ BytesIn w a n f ∧ n ≤ c ∧ c ≤ maxLen ∧ BytesIn w a' n' g ∧ n' ≤ c' ∧ c' ≤ maxLen := by
  obtain ⟨v0, v1, v2, v3, y0, y1, y2, y3, m, rfl, rfl, _, h0, h1, h2, h3⟩ := Joins.open_agg4 Tryd.underlying36 (by kernel_rfl) (by kernel_rfl) hk h
  obtain ⟨x, e2, _, wx⟩ := DataW.trod_int (show Tryd.prog.underlying 3 = some (.int .i64) from by kernel_rfl) h2
  obtain ⟨z, e3, _, wz⟩ := DataW.trod_int (show Tryd.prog.underlying 3 = some (.int .i64) from by kernel_rfl) h3
  simp only [List.cons.injEq, and_true] at e2 e3
  subst e2 e3
  obtain ⟨a, n, c, f, rfl, hb, hlc, hcm, _⟩ := open_bytes_at h0
  obtain ⟨a', n', c', g, rfl, hb', hlc', hcm', _⟩ := open_bytes_at h1
  exact ⟨a, n, c, f, a', n', c', g, x, z, rfl, hb, hlc, hcm, hb', hlc', hcm'⟩
theorem u64_mod (x : Int) : ∃ z k : Nat, IntKind.u64.wrap x = (z : Int) ∧ z % 400 = k ∧ k < 400 :=
  ⟨(BitVec.ofInt 64 x).toNat, _, by rw [wrap_n64, n64_nat], rfl, Nat.mod_lt _ (by omega)⟩
set_option maxRecDepth 100000 in
set_option maxHeartbeats 16000000 in
theorem law_any (a a' : Option Addr) (n c n' c' : Nat) (f g : Nat → BitVec 8) (x y : Int) (w : World) (T : TabK w) (hx : BytesIn w a n f) (hc : n ≤ c) (hcm : c ≤ maxLen) (hy : BytesIn w a' n' g) (hc' : n' ≤ c') (hcm' : c' ≤ maxLen) :
    Calls Tryd.prog 5 #[.agg #[.slice a n c, .slice a' n' c', .int .i64 x, .int .i64 y]] w fun e w' => e = .returned (.bool true) ∧ Below w.heap.size w w' := by
  have HX := Lib.hid hx
  have HY := Lib.hid hy
  have TK := Lib.hid T
  obtain ⟨z1, k1, hz1, hk1, hl1⟩ := u64_mod x
  obtain ⟨z2, k2, hz2, hk2, hl2⟩ := u64_mod y
  have HZ1 := Lib.hid hz1
  have HZ2 := Lib.hid hz2
  have HK1 := Lib.hid hk1
  have HK2 := Lib.hid hk2
  clear hx hy T hz1 hz2 hk1 hk2
  go_enter Tryd.func5, Tryd.ntmps5
  go_wp2_with fail
  have row := heap_alloc_last w (.cells #[.slice a n c, .slice a' n' c', .int .i64 x, .int .i64 y] 36)
  have bel := (Below.refl w.heap.size w).alloc (Nat.le_refl _) (.cells #[.slice a n c, .slice a' n' c', .int .i64 x, .int .i64 y] 36)
  generalize hW : w.alloc _ = wa at *
  obtain ⟨q, hq⟩ : ∃ q, w.heap.size = q := ⟨_, rfl⟩
  have ql := lt_of_heap row
  simp only [hq] at row ql ⊢
  have C := Lib.hid (fun (w' : World) (hb : Below wa.heap.size wa w') => (show w'.cell? ⟨q, 0, none⟩ = some (.slice a n c) ∧ w'.cell? ⟨q, 1, none⟩ = some (.slice a' n' c') ∧ w'.cell? ⟨q, 2, none⟩ = some (.int .i64 x) ∧ w'.cell? ⟨q, 3, none⟩ = some (.int .i64 y) from by
    have h := (hb.block q ql).trans row
    exact ⟨by rw [cell_of_row _ _ _ _ _ _ h]; rfl, by rw [cell_of_row _ _ _ _ _ _ h]; rfl, by rw [cell_of_row _ _ _ _ _ _ h]; rfl, by rw [cell_of_row _ _ _ _ _ _ h]; rfl⟩))
  have XA := Lib.hid (fun (w' : World) (hb : Below wa.heap.size wa w') => bytesIn_ext HX.out (bel.trans (hb.mono bel.size)))
  have YA := Lib.hid (fun (w' : World) (hb : Below wa.heap.size wa w') => bytesIn_ext HY.out (bel.trans (hb.mono bel.size)))
  have TA := Lib.hid (fun (w' : World) (hb : Below wa.heap.size wa w') => TK.out.later (bel.trans (hb.mono bel.size)))
  have BA := Lib.hid bel
  have HQ := Lib.hid hq
  clear hW row bel HX HY TK hq
  with_reducible refine (expands_any wa (TA.out wa (Below.refl _ _))).mono ?_
  rintro e w1 ⟨rfl, hb1⟩
  obtain ⟨m0, m1, m2, m3⟩ := C.out w1 hb1
  clear m2 m3
  by_cases hl : n ≤ 3000
  · have hlI : ¬ (3000 : Int) < (n : Int) := by omega
    by_cases hl' : n' ≤ 300
    · have hlI' : ¬ (300 : Int) < (n' : Int) := by omega
      go_wp2_with fail
      have B1 := Lib.hid hb1
      clear m0 m1 hb1
      obtain ⟨lo, hlo⟩ : ∃ lo, min k1 k2 = lo := ⟨_, rfl⟩
      obtain ⟨hi, hhi⟩ : ∃ hi, max k1 k2 = hi := ⟨_, rfl⟩
      have hlh : lo ≤ hi := by omega
      have hh4 : hi < 400 := by omega
      have HLO := Lib.hid hlo
      have HHI := Lib.hid hhi
      clear hlo hhi
      go_cut [3, 4] (fun v3 v4 wx => v3 = .int .i64 (k1 : Int) ∧ v4 = .int .i64 (k2 : Int) ∧ Below w1.heap.size w1 wx)
      case first =>
        have hk1I : (z1 : Int).tmod 400 = (k1 : Int) := by rw [Int.tmod_eq_emod_of_nonneg (by omega)]; have := HK1.out; omega
        have hk2I : (z2 : Int).tmod 400 = (k2 : Int) := by rw [Int.tmod_eq_emod_of_nonneg (by omega)]; have := HK2.out; omega
        have hw1 : IntKind.i64.wrap (k1 : Int) = (k1 : Int) := by rw [IntKind.wrap_i64]; omega
        have hw2 : IntKind.i64.wrap (k2 : Int) = (k2 : Int) := by rw [IntKind.wrap_i64]; omega
        have HKI1 := Lib.hid hk1I
        have HKI2 := Lib.hid hk2I
        have HW1 := Lib.hid hw1
        have HW2 := Lib.hid hw2
        clear hk1I hk2I hw1 hw2
        refine region_class1 11 (fun w' => Below w1.heap.size w1 w') mixedOrders (by kernel_rfl) (Below.refl _ _).drew rfl ?_
        refine wpQuiet_take (by rfl) (fun K hK => ⟨.pointer (some ⟨q, 2, none⟩), fun w2' hw2 => ?_, hK _ ?_⟩)
        · clear hw2; go_simp
        clear hK K
        simp only [Act.put, List.setIfInBounds_toArray, List.set_cons_succ, List.set_cons_zero]
        refine wpQuiet_take (by rfl) (fun K hK => ⟨.int .i64 x, fun w2' hw2 => ?_, hK _ ?_⟩)
        · have k := (C.out w2' (B1.out.trans (hw2.mono B1.out.size))).2.2.1
          clear hw2
          go_simp
        clear hK K
        simp only [Act.put, List.setIfInBounds_toArray, List.set_cons_succ, List.set_cons_zero]
        refine wpQuiet_take (by rfl) (fun K hK => ⟨.int .u64 (z1 : Int), fun w2' hw2 => ?_, hK _ ?_⟩)
        · have k := HZ1.out
          clear hw2
          go_simp
        clear hK K
        simp only [Act.put, List.setIfInBounds_toArray, List.set_cons_succ, List.set_cons_zero]
        refine wpQuiet_take (by rfl) (fun K hK => ⟨.int .u64 (k1 : Int), fun w2' hw2 => ?_, hK _ ?_⟩)
        · have k := HKI1.out
          clear hw2
          go_simp
        clear hK K
        simp only [Act.put, List.setIfInBounds_toArray, List.set_cons_succ, List.set_cons_zero]
        refine wpQuiet_take (by rfl) (fun K hK => ⟨.int .i64 (k1 : Int), fun w2' hw2 => ?_, hK _ ?_⟩)
        · have k := HW1.out
          clear hw2
          go_simp
        clear hK K
        simp only [Act.put, List.setIfInBounds_toArray, List.set_cons_succ, List.set_cons_zero]
        refine wpQuiet_take (by rfl) (fun K hK => ⟨.pointer (some ⟨q, 3, none⟩), fun w2' hw2 => ?_, hK _ ?_⟩)
        · clear hw2; go_simp
        clear hK K
        simp only [Act.put, List.setIfInBounds_toArray, List.set_cons_succ, List.set_cons_zero]
        refine wpQuiet_take (by rfl) (fun K hK => ⟨.int .i64 y, fun w2' hw2 => ?_, hK _ ?_⟩)
        · have k := (C.out w2' (B1.out.trans (hw2.mono B1.out.size))).2.2.2
          clear hw2
          go_simp
        clear hK K
        simp only [Act.put, List.setIfInBounds_toArray, List.set_cons_succ, List.set_cons_zero]
        refine wpQuiet_take (by rfl) (fun K hK => ⟨.int .u64 (z2 : Int), fun w2' hw2 => ?_, hK _ ?_⟩)
        · have k := HZ2.out
          clear hw2
          go_simp
        clear hK K
        simp only [Act.put, List.setIfInBounds_toArray, List.set_cons_succ, List.set_cons_zero]
        refine wpQuiet_take (by rfl) (fun K hK => ⟨.int .u64 (k2 : Int), fun w2' hw2 => ?_, hK _ ?_⟩)
        · have k := HKI2.out
          clear hw2
          go_simp
        clear hK K
        simp only [Act.put, List.setIfInBounds_toArray, List.set_cons_succ, List.set_cons_zero]
        refine wpQuiet_take (by rfl) (fun K hK => ⟨.int .i64 (k2 : Int), fun w2' hw2 => ?_, hK _ ?_⟩)
        · have k := HW2.out
          clear hw2
          go_simp
        clear hK K
        simp only [Act.put, List.setIfInBounds_toArray, List.set_cons_succ, List.set_cons_zero]
        refine wpQuiet_take (by rfl) (fun K hK => ⟨.int .i64 (k1 : Int), fun w2' hw2 => ?_, hK _ ?_⟩)
        · clear hw2; go_simp
        clear hK K
        simp only [Act.put, List.setIfInBounds_toArray, List.set_cons_succ, List.set_cons_zero]
        refine wpQuiet_take0 ?_
        intro w2 hb2
        go_wp2_with fail
        go_meet
        exact ⟨rfl, rfl, hb2⟩
      obtain ⟨rfl, rfl, hb2⟩ := hcut
      have B2 := Lib.hid (B1.out.trans (hb2.mono B1.out.size))
      obtain ⟨w2, hw2⟩ : ∃ w2, w2 = wc := ⟨_, rfl⟩
      subst hw2
      clear hb2 B1 HZ1 HZ2 HK1 HK2
      go_upto_region 4 with fail
      go_cut [3, 4] (fun v3 v4 wx => v3 = .int .i64 (lo : Int) ∧ v4 = .int .i64 (hi : Int) ∧ wx = w2)
      case first =>
        have h1 := HLO.out
        have h2 := HHI.out
        clear HLO HHI
        rcases Nat.lt_trichotomy k1 k2 with h | h | h
        · obtain rfl : k1 = lo := by omega
          obtain rfl : k2 = hi := by omega
          have hI : (k1 : Int) < (k2 : Int) := by omega
          have hI' : ¬ (k2 : Int) < (k1 : Int) := by omega
          go_wp2_with fail
          go_meet
          exact ⟨rfl, rfl, rfl⟩
        · subst h
          obtain rfl : k1 = lo := by omega
          obtain rfl : k1 = hi := by omega
          have hI : ¬ (k1 : Int) < (k1 : Int) := by omega
          go_wp2_with fail
          go_meet
          exact ⟨rfl, rfl, rfl⟩
        · obtain rfl : k2 = lo := by omega
          obtain rfl : k1 = hi := by omega
          have hI : ¬ (k1 : Int) < (k2 : Int) := by omega
          have hI' : (k2 : Int) < (k1 : Int) := by omega
          go_wp2_with fail
          go_meet
          exact ⟨rfl, rfl, rfl⟩
      obtain ⟨rfl, rfl, ewc⟩ := hcut
      rw [ewc]
      clear ewc HLO HHI
      have EX := Lib.hid (fun (w' : World) (N : Nat) (hN : N ≤ 8160) (hb : Below wa.heap.size wa w') => expand_ok n c n' c' N f g a a' w' (TA.out w' hb) (XA.out w' hb) hc hcm (by omega) (YA.out w' hb) hc' hcm' (by omega) hN)
      obtain ⟨E, hE⟩ : ∃ E, expB (keyB f n) g n' = E := ⟨_, rfl⟩
      rw [hE] at EX
      clear hE
      obtain ⟨m0, m1, m2, m3⟩ := C.out w2 B2.out
      clear m2 m3
      go_wp2_with fail
      with_reducible refine (EX.out w2 lo (by omega) B2.out).mono ?_
      rintro e w5 ⟨v5, rfl, o5, hb5⟩
      obtain ⟨a5, c5, rfl, hc5, hm5, bi5, _, hg5⟩ := o5.asMine
      have B5 := Lib.hid (B2.out.trans (hb5.mono B2.out.size))
      have X5 := Lib.hid bi5
      clear hg5 o5 bi5 hb5 m0 m1
      obtain ⟨m0, m1, m2, m3⟩ := C.out w5 B5.out
      clear m2 m3
      go_wp2_with fail
      with_reducible refine (EX.out w5 hi (by omega) B5.out).mono ?_
      rintro e w6 ⟨v6, rfl, o6, hb6⟩
      obtain ⟨a6, c6, rfl, hc6, hm6, bi6, _, hg6⟩ := o6.asMine
      have B6 := Lib.hid (B5.out.trans (hb6.mono B5.out.size))
      have S5 := Lib.hid (fun (w' : World) (hb : Below w6.heap.size w6 w') => conv_in E a5 lo c5 w' (bytesIn_ext (bytesIn_ext X5.out hb6) hb))
      have S6 := Lib.hid (fun (w' : World) (hb : Below w6.heap.size w6 w') => conv_in E a6 lo c6 w' (bytesIn_ext (bytesIn_upto bi6 hlh) hb))
      clear hg6 o6 bi6 hb6 m0 m1 X5 EX
      generalize strOf E lo = SE at *
      go_upto_region 7 with fail
      refine region_class1 27 (fun w' => Below w6.heap.size w6 w') mixedOrders (by kernel_rfl) (Below.refl _ _).drew rfl ?_
      refine wpQuiet_take (by rfl) (fun K hK => ⟨.int .i64 0, fun w2' hw2 => ?_, hK _ ?_⟩)
      · clear hw2; go_simp
      clear hK K
      simp only [Act.put, List.setIfInBounds_toArray, List.set_cons_succ, List.set_cons_zero]
      refine wpQuiet_take (by rfl) (fun K hK => ⟨.bool true, fun w2' hw2 => ?_, hK _ ?_⟩)
      · clear hw2; go_simp
      clear hK K
      simp only [Act.put, List.setIfInBounds_toArray, List.set_cons_succ, List.set_cons_zero]
      refine wpQuiet_take (by rfl) (fun K hK => ⟨.bool true, fun w2' hw2 => ?_, hK _ ?_⟩)
      · clear hw2; go_simp
      clear hK K
      simp only [Act.put, List.setIfInBounds_toArray, List.set_cons_succ, List.set_cons_zero]
      refine wpQuiet_take (by rfl) (fun K hK => ⟨.int .i64 0, fun w2' hw2 => ?_, hK _ ?_⟩)
      · clear hw2; go_simp
      clear hK K
      simp only [Act.put, List.setIfInBounds_toArray, List.set_cons_succ, List.set_cons_zero]
      refine wpQuiet_take (by rfl) (fun K hK => ⟨.bool true, fun w2' hw2 => ?_, hK _ ?_⟩)
      · clear hw2; go_simp
      clear hK K
      simp only [Act.put, List.setIfInBounds_toArray, List.set_cons_succ, List.set_cons_zero]
      refine wpQuiet_take (by rfl) (fun K hK => ⟨.bool true, fun w2' hw2 => ?_, hK _ ?_⟩)
      · clear hw2; go_simp
      clear hK K
      simp only [Act.put, List.setIfInBounds_toArray, List.set_cons_succ, List.set_cons_zero]
      refine wpQuiet_take (by rfl) (fun K hK => ⟨.bool true, fun w2' hw2 => ?_, hK _ ?_⟩)
      · clear hw2; go_simp
      clear hK K
      simp only [Act.put, List.setIfInBounds_toArray, List.set_cons_succ, List.set_cons_zero]
      refine wpQuiet_take (by rfl) (fun K hK => ⟨.slice a5 lo c5, fun w2' hw2 => ?_, hK _ ?_⟩)
      · clear hw2; go_simp
      clear hK K
      simp only [Act.put, List.setIfInBounds_toArray, List.set_cons_succ, List.set_cons_zero]
      refine wpQuiet_take (by rfl) (fun K hK => ⟨.int .i64 (lo : Int), fun w2' hw2 => ?_, hK _ ?_⟩)
      · clear hw2; go_simp
      clear hK K
      simp only [Act.put, List.setIfInBounds_toArray, List.set_cons_succ, List.set_cons_zero]
      refine wpQuiet_take (by rfl) (fun K hK => ⟨.int .i64 (lo : Int), fun w2' hw2 => ?_, hK _ ?_⟩)
      · clear hw2; go_simp
      clear hK K
      simp only [Act.put, List.setIfInBounds_toArray, List.set_cons_succ, List.set_cons_zero]
      refine wpQuiet_take (by rfl) (fun K hK => ⟨.bool true, fun w2' hw2 => ?_, hK _ ?_⟩)
      · clear hw2; go_simp
      clear hK K
      simp only [Act.put, List.setIfInBounds_toArray, List.set_cons_succ, List.set_cons_zero]
      refine wpQuiet_take (by rfl) (fun K hK => ⟨.bool true, fun w2' hw2 => ?_, hK _ ?_⟩)
      · clear hw2; go_simp
      clear hK K
      simp only [Act.put, List.setIfInBounds_toArray, List.set_cons_succ, List.set_cons_zero]
      refine wpQuiet_take (by rfl) (fun K hK => ⟨.bool true, fun w2' hw2 => ?_, hK _ ?_⟩)
      · clear hw2; go_simp
      clear hK K
      simp only [Act.put, List.setIfInBounds_toArray, List.set_cons_succ, List.set_cons_zero]
      refine wpQuiet_take (by rfl) (fun K hK => ⟨.slice a6 hi c6, fun w2' hw2 => ?_, hK _ ?_⟩)
      · clear hw2; go_simp
      clear hK K
      simp only [Act.put, List.setIfInBounds_toArray, List.set_cons_succ, List.set_cons_zero]
      refine wpQuiet_take (by rfl) (fun K hK => ⟨.int .i64 (hi : Int), fun w2' hw2 => ?_, hK _ ?_⟩)
      · clear hw2; go_simp
      clear hK K
      simp only [Act.put, List.setIfInBounds_toArray, List.set_cons_succ, List.set_cons_zero]
      refine wpQuiet_take (by rfl) (fun K hK => ⟨.int .i64 (hi : Int), fun w2' hw2 => ?_, hK _ ?_⟩)
      · clear hw2; go_simp
      clear hK K
      simp only [Act.put, List.setIfInBounds_toArray, List.set_cons_succ, List.set_cons_zero]
      refine wpQuiet_take (by rfl) (fun K hK => ⟨.bool true, fun w2' hw2 => ?_, hK _ ?_⟩)
      · clear hw2; go_simp
      clear hK K
      simp only [Act.put, List.setIfInBounds_toArray, List.set_cons_succ, List.set_cons_zero]
      refine wpQuiet_take (by rfl) (fun K hK => ⟨.bool true, fun w2' hw2 => ?_, hK _ ?_⟩)
      · clear hw2; go_simp
      clear hK K
      simp only [Act.put, List.setIfInBounds_toArray, List.set_cons_succ, List.set_cons_zero]
      refine wpQuiet_take (by rfl) (fun K hK => ⟨.bool true, fun w2' hw2 => ?_, hK _ ?_⟩)
      · clear hw2; go_simp
      clear hK K
      simp only [Act.put, List.setIfInBounds_toArray, List.set_cons_succ, List.set_cons_zero]
      refine wpQuiet_take (by rfl) (fun K hK => ⟨.slice a5 lo c5, fun w2' hw2 => ?_, hK _ ?_⟩)
      · clear hw2; go_simp
      clear hK K
      simp only [Act.put, List.setIfInBounds_toArray, List.set_cons_succ, List.set_cons_zero]
      refine wpQuiet_take (by rfl) (fun K hK => ⟨.string SE, fun w2' hw2 => ?_, hK _ ?_⟩)
      · have k := S5.out w2' hw2
        clear hw2
        go_simp
      clear hK K
      simp only [Act.put, List.setIfInBounds_toArray, List.set_cons_succ, List.set_cons_zero]
      refine wpQuiet_take (by rfl) (fun K hK => ⟨.slice a6 hi c6, fun w2' hw2 => ?_, hK _ ?_⟩)
      · clear hw2; go_simp
      clear hK K
      simp only [Act.put, List.setIfInBounds_toArray, List.set_cons_succ, List.set_cons_zero]
      refine wpQuiet_take (by rfl) (fun K hK => ⟨.int .i64 (lo : Int), fun w2' hw2 => ?_, hK _ ?_⟩)
      · clear hw2; go_simp
      clear hK K
      simp only [Act.put, List.setIfInBounds_toArray, List.set_cons_succ, List.set_cons_zero]
      refine wpQuiet_take (by rfl) (fun K hK => ⟨.slice a6 lo c6, fun w2' hw2 => ?_, hK _ ?_⟩)
      · have k := run_upto w2' a6 lo hi c6 hlh hc6
        clear hw2
        go_simp
      clear hK K
      simp only [Act.put, List.setIfInBounds_toArray, List.set_cons_succ, List.set_cons_zero]
      refine wpQuiet_take (by rfl) (fun K hK => ⟨.string SE, fun w2' hw2 => ?_, hK _ ?_⟩)
      · have k := S6.out w2' hw2
        clear hw2
        go_simp
      clear hK K
      simp only [Act.put, List.setIfInBounds_toArray, List.set_cons_succ, List.set_cons_zero]
      refine wpQuiet_take (by rfl) (fun K hK => ⟨.bool true, fun w2' hw2 => ?_, hK _ ?_⟩)
      · clear hw2; go_simp
      clear hK K
      simp only [Act.put, List.setIfInBounds_toArray, List.set_cons_succ, List.set_cons_zero]
      refine wpQuiet_take (by rfl) (fun K hK => ⟨.bool true, fun w2' hw2 => ?_, hK _ ?_⟩)
      · clear hw2; go_simp
      clear hK K
      simp only [Act.put, List.setIfInBounds_toArray, List.set_cons_succ, List.set_cons_zero]
      refine wpQuiet_take0 ?_
      intro w7 hb7
      have B7 := Lib.hid (B6.out.trans (hb7.mono B6.out.size))
      clear hb7
      go_wp2_with fail
      go_ret
      exact ⟨rfl, by rw [HQ.out]; exact (by have := BA.out; rw [HQ.out] at this; exact this.trans (B7.out.mono (by omega)))⟩
    · have hlI' : (300 : Int) < (n' : Int) := by omega
      go_wp2_with fail
      clear m0 m1
      with_reducible refine (expands_any w1 (TA.out w1 hb1)).mono ?_
      rintro e w2 ⟨rfl, hb2⟩
      go_wp2_with fail
      go_ret
      exact ⟨rfl, by rw [HQ.out]; exact (by have := BA.out; rw [HQ.out] at this; exact this.trans ((hb1.trans (hb2.mono hb1.size)).mono (by omega)))⟩
  · have hlI : (3000 : Int) < (n : Int) := by omega
    go_wp2_with fail
    clear m0 m1
    with_reducible refine (expands_any w1 (TA.out w1 hb1)).mono ?_
    rintro e w2 ⟨rfl, hb2⟩
    go_wp2_with fail
    go_ret
    exact ⟨rfl, by rw [HQ.out]; exact (by have := BA.out; rw [HQ.out] at this; exact this.trans ((hb1.trans (hb2.mono hb1.size)).mono (by omega)))⟩
set_option maxRecDepth 100000 in
theorem walk {H : Type} {enc : TypeId × Value → H} (w : World) (base : Nat) (v0 : Value) (d0 : DataW H) (p0 : List MemPlace)
    (k0 : Value.okWide Tryd.prog w .any base 36 v0) (h0 : DataW.Trod enc Tryd.prog w 0 (fun _ => true) true 36 v0 d0 p0) (tab : TabK w) :
    Calls Tryd.prog 5 #[v0] w fun e w' => e = .returned (.bool true) ∧ Below w.heap.size w w' := by
  obtain ⟨a, n, c, f, a', n', c', g, x, y, rfl, hb, hlc, hm, hb', hlc', hm'⟩ := open_fewer k0 h0
  exact law_any a a' n c n' c' f g x y w tab hb hlc hm hb' hlc' hm'
set_option maxRecDepth 100000 in
theorem lifted (os : Os) (started : os.Started) (H : Type) (enc : TypeId × Value → H) :
    ReturnsInHanded {} Tryd.checked os 5 .any (fun w args => (Rows.hkdfFewerSpec.pre enc Tryd.prog Tryd.f5 [] false w args ∧ laidMetH Tryd.prog laids w) ∧ sizedMet enc Tryd.prog Tryd.f5 (OpenSpec.ofChange Rows.hkdfFewerSpec) false w args)
      (Rows.hkdfFewerSpec.post enc Tryd.prog Tryd.f5 false true false false) := by
  refine returnsInHanded_of_change_and (C := Tryd.checked) (X := fun w _ => laidMetH Tryd.prog laids w) (fun _ _ _ hh h => h.of_heap hh) own started (by kernel_rfl) Tryd.func5
    (ChangeSpec.witness_shaped (enc := enc) (C := Tryd.checked) (os := os) (X := fun w _ => laidMetH Tryd.prog laids w) false (World.doorLaid Tryd.prog 14 os) #[.agg #[.slice none 0 0, .slice none 0 0, .int .i64 0, .int .i64 0]] 8 rfl (World.shaped_of_RefB (by kernel_rfl) (by kernel_rfl)) (by kernel_rfl) (by kernel_rfl) (by kernel_rfl) (door_met os _)) ?_
  intro W base args ds gs before hval0 hW _ _ hL _
  have hval : ∀ (j : Nat) t v, Tryd.f5.params[j]? = some t → args[j]? = some v → Value.okWide Tryd.prog W .any base t v := hval0
  have hW' := hW
  obtain ⟨p, q, hA0, hV, rfl, hfz, hnd⟩ := hW
  have hA : DataW.TrodAll enc Tryd.prog W 0 (fun _ => true) true Tryd.f5.params.toList args.toList ds p := hA0
  rw [Tryd.params5] at hA hval
  obtain ⟨v0, vs0, d0, ds0, p0, q0, hargs, rfl, rfl, h0, r0⟩ := trodAll_cons hA
  obtain ⟨rfl, rfl, rfl⟩ := trodAll_nil r0
  obtain rfl : args = #[v0] := by cases args; simp_all
  obtain ⟨rfl, rfl⟩ := trodVars_none hV
  have k0 := h0
  have lt0 : ∀ x ∈ p0, x.block < W.heap.size := by obtain ⟨m, hm⟩ := k0; exact DataW.trod_lt m _ _ _ hm
  clear hA0 hval0
  refine (walk W base v0 d0 p0 (hval 0 36 v0 rfl rfl) k0 (tabK_of_laid hL)).mono fun e W' ⟨he, bel⟩ => ?_
  subst he
  exact ⟨_, rfl, _, _, _, [], _, [], hW', trodAll_mk1 (shut_bool Tryd.underlying4 _), (trodAll_cons_mk (Below.trod laidOut (by kernel_rfl) (of_decide_eq_true (by kernel_rfl)) k0 bel lt0) trodAll_mk0), rfl, bel.frame _, fun h => by cases h⟩
theorem over : Rows.HkdfFewerSaid :=
  OpenClaim.holds_of_wide 5 Tryd.f5 rfl rfl rfl rfl rfl rfl rfl ⟨rfl, rfl, rfl, rfl, rfl⟩ rfl rfl rfl rfl rfl (by kernel_rfl) Tryd.func5 (by kernel_rfl)
    (of_decide_eq_true (by kernel_rfl)) (by unfold Func.isWrapper; first | (rw [if_pos (by decide +kernel)]; kernel_rfl) | (rw [if_neg (by decide +kernel)]; exact ⟨rfl, rfl⟩))
    (fun os started H enc _ => lifted os started H enc)
theorem proved : Rows.HkdfFewerCardSaid :=
  Claim7.holds_tied_plain_at .later [] [.data] true (true, "51514c4db4b86ac38101e61a085df83b691a39fd7844e7ee45d3e83372f213d6") false
    over (fun _ h => by cases h) (by kernel_rfl) (fun _ h => by cases h) hkdfFewer_row_tie rfl ⟨rfl, rfl⟩ (by kernel_rfl) rfl
    (fun f fn hf hfn => by
      obtain rfl : f = 5 := Option.some.inj ((show Tryd.prog.funcNamed "rhyne/rhynelaw02.HkdfFewer" = some 5 by kernel_rfl).symm.trans hf) |>.symm
      obtain rfl : fn = Tryd.f5 := (Option.some.inj (Tryd.func5.symm.trans hfn)).symm
      exact ⟨by kernel_rfl, fun j t ht => by
        rw [Tryd.params5] at ht
        have hm : t ∈ [36] := by simpa using Array.mem_of_getElem? ht
        have hall : ([36].all fun u => !Tryd.prog.wantsStandIn u) = true := by kernel_rfl
        exact (show Tryd.prog.wantsStandIn t = false by simpa using List.all_eq_true.1 hall t hm)⟩)
    (by kernel_rfl)
end Go.Proofs.YtbadcknchamimabDoor.hkdfFewer
