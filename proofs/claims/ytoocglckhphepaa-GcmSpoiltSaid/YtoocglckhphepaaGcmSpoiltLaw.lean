/-
  GcmSpoilt holds: with one byte of what was sealed, or of what is beside, changed nothing is opened, by a key whose H isn't nought. No conditions.
-/
import Derived.Test.YtoocglckhphepaaRows
import Derived.Test.YtoocglckhphepaaGcmX
import Derived.Test.YtoocglckhphepaaGcmY
import Derived.WalkKit
import Derived.ProofKit
import Derived.OpenShut
import Derived.ShutString
import Derived.ChangeOld
import Derived.Below
import Derived.Deep.DeepCutAuto
import Derived.Deep.Upon
import Derived.Deep.AppendSrc
import Derived.SizedLaws
namespace Go.Proofs.Ytoocglckhphepaa.gcmSpoilt
open Go Go.ChangeShapes Go.WideShapes Go.ChangeAt Go.RowKit Go.BigFrame
set_option linter.unusedVariables false
theorem own : ownKnob Try.prog.godebug = none := by kernel_rfl
theorem laidOut : laidOutB Try.prog = true := by kernel_rfl
set_option linter.unusedSimpArgs false
theorem in_set {w : World} {g K n : Nat} {cur : Array Value} {T : TypeId} {f : Nat → BitVec 8} {x : BitVec 8} (row : w.heap[g]? = some (.cells cur T (0, 0))) (h : BytesIn w (some ⟨g, 0, none⟩) n f) (hK : K < n) :
    BytesIn (w.setCell ⟨g, K, none⟩ (.int .u8 (n8 x))) (some ⟨g, 0, none⟩) n (updb f K x) := by
  obtain h0 | ⟨b, o, e, hl, hc⟩ := h.2
  · omega
  cases e
  refine ⟨h.1, .inr ⟨g, 0, rfl, by simp [World.setCell]; exact hl, fun i hi => ?_⟩⟩
  have hci := hc i hi
  have hcK := hc K hK
  rw [cell_of_row _ _ _ _ _ _ row, Nat.zero_add] at hci hcK
  have hsz : K < cur.size := (Array.getElem?_eq_some_iff.1 hcK).1
  rw [cell_of_row _ _ _ _ _ _ (heap_setCell_same w g K cur T _ row), Nat.zero_add, Array.getElem?_setIfInBounds]
  by_cases hiK : K = i
  · subst hiK
    rw [if_pos rfl, if_pos hsz, updb, if_pos rfl]
  · rw [if_neg hiK, hci, updb, if_neg (fun e => hiK e.symm)]
theorem in_other {w : World} {g K n : Nat} {a : Option Addr} {v : Value} {f : Nat → BitVec 8} (h : BytesIn w a n f) (hb : ∀ y, a = some y → y.block ≠ g) : BytesIn (w.setCell ⟨g, K, none⟩ v) a n f := by
  refine ⟨h.1, ?_⟩
  obtain h0 | ⟨b, o, e, hl, hc⟩ := h.2
  · exact .inl h0
  · refine .inr ⟨b, o, e, by simp [World.setCell]; exact hl, fun i hi => ?_⟩
    have hne : b ≠ g := hb _ e
    rw [← hc i hi]
    unfold World.cell?
    rw [heap_setCell_other _ _ _ _ hne]
theorem xor_ne (a x : BitVec 8) (hx : x ≠ 0#8) : a ^^^ x ≠ a := fun e => hx (by
  have := congrArg (fun z => a ^^^ z) e
  rw [← BitVec.xor_assoc, BitVec.xor_self, BitVec.zero_xor] at this
  exact this)
theorem updb_self (f : Nat → BitVec 8) (k : Nat) : updb f k (f k) = f := by
  funext i
  unfold updb
  by_cases h : i = k
  · rw [if_pos h, h]
  · rw [if_neg h]
/-- What is opened of what was spoilt. -/
def Told (ks : Nat → BitVec 32) (h : W2) (f : Nat → BitVec 8) (n : Nat) (xs : Nat → BitVec 8) (m : Nat) (x : BitVec 8) (g' ys : Nat → BitVec 8) : Prop :=
  (x = 0#8 → openE ks h f g' n ys m = true ∧ ∀ i, i < m → hid ks f ys i = xs i) ∧ (x ≠ 0#8 → openE ks h f g' n ys m = true → h = ⟨0#64, 0#64⟩)
theorem told_seal (ks : Nat → BitVec 32) (h : W2) (f g : Nat → BitVec 8) (n : Nat) (xs : Nat → BitVec 8) (m k : Nat) (x : BitVec 8) (hk : k < m + 16) : Told ks h f n xs m x g (updb (sealF ks h f g n xs m) k (sealF ks h f g n xs m k ^^^ x)) := by
  refine ⟨fun h0 => ?_, fun hx hE => ?_⟩
  · subst h0
    rw [BitVec.xor_zero, updb_self]
    exact ⟨openE_sealed ks h f g n xs m, fun i hi => hid_hid ks h f g n xs m i hi⟩
  · refine Classical.byContradiction (fun hh => ?_)
    rw [spoilt_seal ks h f g n xs m k hh hk _ (xor_ne _ x hx)] at hE
    cases hE
theorem told_side (ks : Nat → BitVec 32) (h : W2) (f g : Nat → BitVec 8) (n : Nat) (xs : Nat → BitVec 8) (m k : Nat) (x : BitVec 8) (hk : k < n) : Told ks h f n xs m x (updb g k (g k ^^^ x)) (sealF ks h f g n xs m) := by
  refine ⟨fun h0 => ?_, fun hx hE => ?_⟩
  · subst h0
    rw [BitVec.xor_zero, updb_self]
    exact ⟨openE_sealed ks h f g n xs m, fun i hi => hid_hid ks h f g n xs m i hi⟩
  · refine Classical.byContradiction (fun hh => ?_)
    rw [spoilt_side ks h f g n xs m k hh hk _ (xor_ne _ x hx)] at hE
    cases hE
set_option maxHeartbeats 16000000 in
set_option maxRecDepth 100000 in
theorem law_any (key f1 f2 f3 : Nat → BitVec 8) (a1 a2 a3 : Option Addr) (n1 c1 n2 c2 n3 c3 : Nat) (at_ : Int) (x : BitVec 8) (w : World) (h1 : BytesIn w a1 n1 f1) (hc1 : n1 ≤ c1) (hm1 : c1 ≤ maxLen) (hz1 : n1 ≤ 140737488355328)
    (h2 : BytesIn w a2 n2 f2) (hc2 : n2 ≤ c2) (hm2 : c2 ≤ maxLen) (h3 : BytesIn w a3 n3 f3) (hc3 : n3 ≤ c3) (hm3 : c3 ≤ maxLen) :
    Calls Try.prog 5 #[.agg (letterC key (.slice a1 n1 c1) (.slice a2 n2 c2) (.slice a3 n3 c3)), .int .i64 at_, .int .u8 (n8 x)] w fun e w' => e = .returned (.bool true) ∧ Below w.heap.size w w' := by
  obtain ⟨k2, hk2, hkn2, C2⟩ := cut_any a2 n2 c2 w hc2 hm2
  obtain ⟨k3, hk3, hkn3, C3⟩ := cut_any a3 n3 c3 w hc3 hm3
  have H1 := Lib.hid h1
  have H2 := Lib.hid (in_less h2 hkn2)
  have H3 := Lib.hid (in_less h3 hkn3)
  have C2' := Lib.hid C2
  have C3' := Lib.hid C3
  have L2 := Lib.hid (Nat.le_trans hkn2 hc2)
  have L3 := Lib.hid (Nat.le_trans hkn3 hc3)
  have M2 := Lib.hid hm2
  have M3 := Lib.hid hm3
  clear h1 h2 h3 C2 C3 hm1 hm2 hm3 hc1 hc2 hc3 hkn2 hkn3
  go_enter Try.func5, Try.ntmps5
  go_wp2_with fail
  have row := heap_alloc_last w (.cells (letterC key (.slice a1 n1 c1) (.slice a2 n2 c2) (.slice a3 n3 c3)) 29)
  have bel := (Below.refl w.heap.size w).alloc (Nat.le_refl _) (.cells (letterC key (.slice a1 n1 c1) (.slice a2 n2 c2) (.slice a3 n3 c3)) 29)
  generalize hW : w.alloc _ = wc at *
  clear hW
  have RowC := Lib.hid row
  have BelC := Lib.hid bel
  clear row bel
  have cellsX := Lib.hid (fun (w' : World) (hb : Below wc.heap.size wc w') => (show w'.cell? ⟨w.heap.size, 16, none⟩ = some (.slice a1 n1 c1) ∧ w'.cell? ⟨w.heap.size, 17, none⟩ = some (.slice a2 n2 c2) ∧ w'.cell? ⟨w.heap.size, 18, none⟩ = some (.slice a3 n3 c3) from by
    have r := (hb.block _ (lt_of_heap RowC.out)).trans RowC.out
    refine ⟨?_, ?_, ?_⟩
    · rw [cell_of_row _ _ _ _ _ _ r]; exact letter_1 _ _ _ _
    · rw [cell_of_row _ _ _ _ _ _ r]; exact letter_2 _ _ _ _
    · rw [cell_of_row _ _ _ _ _ _ r]; exact letter_3 _ _ _ _))
  refine (gnew_ok key w.heap.size 0 16 wc (fun i hi => by rw [cell_of_row _ _ _ _ _ _ RowC.out, Nat.zero_add]; exact letter_key _ _ _ _ i hi) (lt_of_heap RowC.out)).mono ?_
  rintro e w1 ⟨p, q, rfl, _, hb1, bx1⟩
  have HB1 := Lib.hid hb1
  have BX1 := Lib.hid bx1
  clear hb1 bx1
  go_wp2_with fail
  refine (sealed_any _).mono ?_
  rintro e w2 ⟨rfl, hb2⟩
  have HB2 := Lib.hid (HB1.out.trans (hb2.mono HB1.out.size))
  have BX2 := Lib.hid (BX1.out.later hb2)
  clear hb2 HB1 BX1
  have hE := Own.empty (B := w2.heap.size) f1 w2 (Nat.le_refl _)
  have hb3 := HB2.out.alloc HB2.out.size (.cells #[] 5)
  have S1 := Lib.hid (src_in (bytesIn_later H1.out (BelC.out.trans (hb3.mono BelC.out.size))) c1)
  have E1 := Lib.hid hE
  obtain ⟨d1, d2, d3⟩ := cellsX.out _ hb3
  clear hE hb3
  go_upto_region 5 with (first
    | (at_builtin; refine wpList_append_bytes (o := ⟨some 31, _, _, _, _, _⟩) rfl _ _ 25 rfl rfl rfl E1.out S1.out (by omega) ?_; intro v3 w3 ho3 hg3; rw [Nat.zero_add] at ho3)
    | (at_builtin; refine wpList_append_zeros (o := ⟨some 32, _, _, _, _, _⟩) rfl _ _ rfl rfl rfl ho3 (by omega) ?_; intro v4 w4 ho4 hg4; obtain ⟨gb, gc, rfl, hgc, hgm, hgin⟩ := ho4.bytesIn (by omega); have su : ∀ w', (Instr.sliceAt 25 (.slice (some ⟨gb, 0, none⟩) (n1 + 12) gc) none (some (.int .i64 12)) none).run Try.prog w' = .ok (.slice (some ⟨gb, 0, none⟩) 12 gc) w' := fun w' => run_upto_b w' (some ⟨gb, 0, none⟩) 12 (n1 + 12) gc (by omega) hgc))
  have hb24 : Below w2.heap.size w2 w4 := (((Below.refl w2.heap.size w2).alloc (Nat.le_refl _) (.cells #[] 5)).trans (hg3.below E1.out)).trans (hg4.below ho3)
  obtain h0 | ⟨gb', go', he, hgl, hgc'⟩ := hgin.2
  · omega
  cases he
  generalize joinb (joinb f1 0 f1) n1 (fun _ => 0#8) = F at *
  have NC := Lib.hid (fun (i : Nat) (hi : i < 12) => hgc' i (by omega))
  have NL := Lib.hid hgl
  have HB4 := Lib.hid (HB2.out.trans (hb24.mono HB2.out.size))
  have BX4 := Lib.hid (BX2.out.later hb24)
  clear hb24 hgin hgc' hgl ho4 hg4 ho3 hg3 su S1 E1 d1 d2 d3 hgc hgm BX2 HB2
  obtain ⟨d1, d2, d3⟩ := cellsX.out w4 HB4.out
  have HW4 := Lib.hid (BelC.out.trans (HB4.out.mono BelC.out.size))
  clear d1 d2 d3
  go_upto_region 5 with (fail)
  have EX := Lib.hid (fun (w' : World) (hb : Ext w4.drew w') => (show Below wc.heap.size wc w' from HB4.out.trans (((Below.refl w4.heap.size w4).drew.trans hb).mono HB4.out.size)))
  refine region_anyM mixedOrders ?_
  refine anyM_take (i := 1) (oi := ⟨some 35, _, _, _, _, _⟩) (v := .pointer (some ⟨w.heap.size, 17, none⟩)) rfl (by kernel_rfl) (by kernel_rfl) (by kernel_rfl) (fun _ _ _ h => h) (.inl ⟨by rfl, fun w2 hw2 => ?_⟩) ?_
  · clear hw2
    go_simp
  simp only [Act.put, List.setIfInBounds_toArray, List.set_cons_succ, List.set_cons_zero]
  refine anyM_take (i := 2) (oi := ⟨some 36, _, _, _, _, _⟩) (v := .slice a2 n2 c2) rfl (by kernel_rfl) (by kernel_rfl) (by kernel_rfl) (fun _ _ _ h => h) (.inl ⟨by rfl, fun w2 hw2 => ?_⟩) ?_
  · have cc := (cellsX.out w2 (EX.out w2 hw2)).2.1
    clear hw2
    go_simp
  simp only [Act.put, List.setIfInBounds_toArray, List.set_cons_succ, List.set_cons_zero]
  refine anyM_take (i := 3) (oi := ⟨some 37, _, _, _, _, _⟩) (v := .slice a2 k2 c2) rfl (by kernel_rfl) (by kernel_rfl) (by kernel_rfl) (fun _ _ _ h => h) (.inl ⟨by rfl, fun w2 hw2 => ?_⟩) ?_
  · clear hw2
    go_simp
    go_at_call 12
    with_reducible refine (C2'.out _).mono ?_
    rintro e w' ⟨rfl, rfl⟩
    exact ⟨rfl, Below.refl _ _⟩
  simp only [Act.put, List.setIfInBounds_toArray, List.set_cons_succ, List.set_cons_zero]
  refine anyM_take (i := 5) (oi := ⟨some 39, _, _, _, _, _⟩) (v := .pointer (some ⟨w.heap.size, 18, none⟩)) rfl (by kernel_rfl) (by kernel_rfl) (by kernel_rfl) (fun _ _ _ h => h) (.inl ⟨by rfl, fun w2 hw2 => ?_⟩) ?_
  · clear hw2
    go_simp
  simp only [Act.put, List.setIfInBounds_toArray, List.set_cons_succ, List.set_cons_zero]
  refine anyM_take (i := 6) (oi := ⟨some 40, _, _, _, _, _⟩) (v := .slice a3 n3 c3) rfl (by kernel_rfl) (by kernel_rfl) (by kernel_rfl) (fun _ _ _ h => h) (.inl ⟨by rfl, fun w2 hw2 => ?_⟩) ?_
  · have cc := (cellsX.out w2 (EX.out w2 hw2)).2.2
    clear hw2
    go_simp
  simp only [Act.put, List.setIfInBounds_toArray, List.set_cons_succ, List.set_cons_zero]
  refine anyM_only (i := 0) (o := ⟨some 34, _, _, _, _, _⟩) (by kernel_rfl) rfl (by rfl) (fun w2 hw2 => ⟨.slice (some ⟨w2.heap.size, 0, none⟩) 0 0, w2.alloc (.cells #[] 5), by go_simp, (Below.refl _ _).alloc (Nat.le_refl _) _, ?_⟩)
  simp only [Act.put, List.setIfInBounds_toArray, List.set_cons_succ, List.set_cons_zero]
  have b2 := ext_below hw2 (Below.refl w4.heap.size w4).drew (Nat.le_refl _)
  have o2 := Own.empty (B := w4.heap.size) f2 w2 b2.size
  have b3 := Lib.hid (b2.alloc b2.size (.cells #[] 5))
  have O2 := Lib.hid o2
  clear hw2 b2 o2
  generalize w2.heap.size = QQ at *
  generalize w2.alloc _ = w3 at *
  refine anyM_only (i := 4) (o := ⟨some 38, _, _, _, _, _⟩) (by kernel_rfl) rfl (by rfl) (fun w4' hw4 => ?_)
  have b4 := ext_below hw4 b3.out b3.out.size
  refine exec_fresh_then _ _ 25 rfl rfl rfl (O2.out.later hw4) (src_in (bytesIn_later H2.out (HW4.out.trans (b4.mono HW4.out.size))) c2) (by omega) ?_
  intro v5 w5 o5 b5
  simp only [Act.put, List.setIfInBounds_toArray, List.set_cons_succ, List.set_cons_zero]
  have b6 := Lib.hid (b4.trans (b5.mono b4.size))
  have O5 := Lib.hid o5
  clear o5 b5 b4 hw4 b3 O2
  refine anyM_take (i := 7) (oi := ⟨some 41, _, _, _, _, _⟩) (v := .slice a3 k3 c3) rfl (by kernel_rfl) (by kernel_rfl) (by kernel_rfl) (fun _ _ _ h => h) (.inl ⟨by rfl, fun w2 hw2 => ?_⟩) ?_
  · clear hw2
    go_simp
    go_at_call 12
    with_reducible refine (C3'.out _).mono ?_
    rintro e w' ⟨rfl, rfl⟩
    exact ⟨rfl, Below.refl _ _⟩
  simp only [Act.put, List.setIfInBounds_toArray, List.set_cons_succ, List.set_cons_zero]
  refine anyM_take (i := 8) (oi := ⟨some 10, _, _, _, _, _⟩) (v := v5) rfl (by kernel_rfl) (by kernel_rfl) (by kernel_rfl) (fun _ _ _ h => h) (.inl ⟨by rfl, fun w2 hw2 => ?_⟩) ?_
  · clear hw2
    go_simp
  simp only [Act.put, List.setIfInBounds_toArray, List.set_cons_succ, List.set_cons_zero]
  refine anyM_take (i := 9) (oi := ⟨some 11, _, _, _, _, _⟩) (v := .slice a3 k3 c3) rfl (by kernel_rfl) (by kernel_rfl) (by kernel_rfl) (fun _ _ _ h => h) (.inl ⟨by rfl, fun w2 hw2 => ?_⟩) ?_
  · clear hw2
    go_simp
  simp only [Act.put, List.setIfInBounds_toArray, List.set_cons_succ, List.set_cons_zero]
  refine anyM_done (by kernel_rfl) (fun w6 hw6 => ?_)
  have b7 := ext_below hw6 b6.out b6.out.size
  have O7 := O5.out.later hw6
  clear hw6
  obtain ⟨sa, sc, rfl, hsc, hscm, sin, hsB, hsg⟩ := O7.asMine
  have B7 := Lib.hid b7
  have HB7 := Lib.hid (HB4.out.trans (b7.mono HB4.out.size))
  have BX7 := Lib.hid (BX4.out.later b7)
  have SIN := Lib.hid sin
  have SG := Lib.hid hsg
  have SC := Lib.hid hsc
  have SCM := Lib.hid hscm
  have SB := Lib.hid hsB
  have N7 := Lib.hid (fun (w' : World) (hb : Below w4.heap.size w4 w') (i : Nat) (hi : i < 12) => (show w'.cell? ⟨gb, 0 + i, none⟩ = some (.int .u8 (n8 (F i))) by rw [hb.cell (p := ⟨gb, 0 + i, none⟩) NL.out]; exact NC.out i hi))
  have B3X := Lib.hid (fun (w' : World) (hb : Below w4.heap.size w4 w') => bytesIn_later H3.out (HW4.out.trans (hb.mono HW4.out.size)))
  have GS := Lib.hid (gseal_ok p q (sched key) (hOf (sched key)) F f2 f3 gb 0 gc sa a3 k2 sc k3 c3 w6 BX7.out (N7.out w6 b7) (Nat.lt_of_lt_of_le NL.out b7.size) sin hsc hscm (B3X.out w6 b7) (by omega))
  clear b7 O7 O5 b6 sin hsg hsc hscm hsB EX C2' C3'
  go_wp2_with fail
  with_reducible refine GS.out.mono ?_
  rintro e w8 ⟨v8, rfl, own8, hb8⟩
  obtain ⟨ca, cc, rfl, hcc, hccm, cin, hcB, hcg⟩ := own8.asMine
  obtain ⟨cg, ccur, rfl, hcrow, hcs⟩ := hcg (by omega)
  have B8 := Lib.hid hb8
  have CIN := Lib.hid cin
  have CROW := Lib.hid hcrow
  have CB := Lib.hid (hcB _ rfl)
  have CC := Lib.hid hcc
  have CCM := Lib.hid hccm
  have HB8 := Lib.hid (HB7.out.trans (hb8.mono HB7.out.size))
  clear hb8 own8 cin hcc hccm hcB hcrow hcs GS
  obtain ⟨u, hu, hu64⟩ : ∃ u : Nat, IntKind.u64.wrap at_ = (u : Int) ∧ u < 18446744073709551616 := ⟨(IntKind.u64.wrap at_).toNat, by
    have h : 0 ≤ IntKind.u64.wrap at_ ∧ IntKind.u64.wrap at_ < 18446744073709551616 := by
      unfold IntKind.wrap
      simp [IntKind.bits, IntKind.signed]
      omega
    omega⟩
  obtain ⟨K, hK, hKM⟩ : ∃ K : Nat, K = u % (k3 + 16 + k2) ∧ K < k3 + 16 + k2 := ⟨_, rfl, Nat.mod_lt _ (by omega)⟩
  have em : (u : Int).tmod ((k3 : Int) + 16 + (k2 : Int)) = (K : Int) := by
    rw [Int.tmod_eq_emod_of_nonneg (by omega), hK, show ((k3 : Int) + 16 + (k2 : Int)) = ((k3 + 16 + k2 : Nat) : Int) by omega]
    rfl
  have em2 : (u : Int) % ((k3 : Int) + 16 + (k2 : Int)) = (K : Int) := by
    rw [hK, show ((k3 : Int) + 16 + (k2 : Int)) = ((k3 + 16 + k2 : Nat) : Int) by omega]
    rfl
  have q0 : ¬ ((k3 : Int) + 16 + (k2 : Int)) = 0 := by omega
  have HK := Lib.hid hK
  clear hK
  have hKI : (K : Int) < 256 := by omega
  go_upto_if 65 with (fail)
  have cellC := Lib.hid (fun (i : Nat) (hi : i < k3 + 16) => (show w8.cell? ⟨cg, i, none⟩ = some (.int .u8 (n8 (sealF (sched key) (hOf (sched key)) F f2 k2 f3 k3 i))) from by
    obtain h0 | ⟨b, o, e, _, hc⟩ := CIN.out.2
    · omega
    · cases e
      have := hc i hi
      rw [Nat.zero_add] at this
      exact this))
  have T1 := Lib.hid (fun (k : Nat) (hk : k < k3 + 16) => told_seal (sched key) (hOf (sched key)) F f2 k2 f3 k3 k x hk)
  have T2 := Lib.hid (fun (k : Nat) (hk : k < k2) => told_side (sched key) (hOf (sched key)) F f2 k2 f3 k3 k x hk)
  have SGB := Lib.hid (fun (y : Addr) (hy : sa = some y) (h0 : 0 < k2) => (show y.block ≠ cg from by
    obtain ⟨g, cur, e, row, _⟩ := SG.out h0
    rw [e] at hy
    injection hy with hy
    have := lt_row row
    have hcb : w6.heap.size ≤ cg := CB.out
    rw [← hy]
    show g ≠ cg
    omega))
  generalize sealF (sched key) (hOf (sched key)) F f2 k2 f3 k3 = SF at *
  go_cut [13] from 66 to 89 (fun v13 wx => v13 = .int .i64 (K : Int) ∧ ∃ g' ys, BytesIn wx sa k2 g' ∧ BytesIn wx (some ⟨cg, 0, none⟩) (k3 + 16) ys ∧ Below w4.heap.size w4 wx ∧ Told (sched key) (hOf (sched key)) F k2 f3 k3 x g' ys)
  case first =>
    by_cases hc : K < k3 + 16
    · have hcI : (K : Int) < (k3 : Int) + 16 := by omega
      have c1 := cellC.out K hc
      have z1 := frozen_of_row w8 cg K _ _ CROW.out
      go_wp2_with fail
      go_meet
      have hcb : w6.heap.size ≤ cg := CB.out
      have bw := B8.out.setCell (p := ⟨cg, K, none⟩) hcb (.int .u8 (n8 (SF K ^^^ x)))
      exact ⟨rfl, f2, updb SF K (SF K ^^^ x), bytesIn_later SIN.out bw, in_set CROW.out CIN.out hc, B7.out.trans (bw.mono B7.out.size), T1.out K hc⟩
    · obtain ⟨j, rfl⟩ : ∃ j, K = k3 + 16 + j := ⟨K - (k3 + 16), by omega⟩
      have hj : j < k2 := by omega
      obtain ⟨sg, scur, rfl, srow, hss⟩ := SG.out (by omega)
      have srow8 := (B8.out.block sg (lt_row srow)).trans srow
      have sin8 := bytesIn_later SIN.out B8.out
      have sb : w4.heap.size ≤ sg := SB.out _ rfl
      have hne : ∀ y, (some (⟨cg, 0, none⟩ : Addr)) = some y → y.block ≠ sg := fun y hy => by
        injection hy with hy
        rw [← hy]
        have hcb : w6.heap.size ≤ cg := CB.out
        have := lt_row srow
        show cg ≠ sg
        omega
      have c1 : w8.cell? ⟨sg, j, none⟩ = some (.int .u8 (n8 (f2 j))) := by
        obtain h0 | ⟨b, o, e, _, hcc⟩ := sin8.2
        · omega
        · cases e
          have := hcc j hj
          rw [Nat.zero_add] at this
          exact this
      have z1 := frozen_of_row w8 sg j _ _ srow8
      have hcI : ¬ ((k3 + 16 + j : Nat) : Int) < (k3 : Int) + 16 := by omega
      have ej : ((k3 + 16 + j : Nat) : Int) - ((k3 : Int) + 16) = (j : Int) := by omega
      have hjI : (j : Int) < (k2 : Int) := by omega
      have S8 := Lib.hid srow8
      have I8 := Lib.hid sin8
      have NE := Lib.hid hne
      clear srow8 sin8 hne srow
      generalize hKJ : k3 + 16 + j = K at *
      go_wp2_with fail
      go_meet
      exact ⟨rfl, updb f2 j (f2 j ^^^ x), SF, in_set S8.out I8.out hj, in_other CIN.out NE.out, (B7.out.trans (B8.out.mono B7.out.size)).setCell sb _, T2.out j hj⟩
  case rest =>
    obtain ⟨rfl, g', ys, gin, yin, hbx, told⟩ := hcut
    have GO := Lib.hid (gopen_ok p q (sched key) (hOf (sched key)) F g' ys gb 0 gc sa (some ⟨cg, 0, none⟩) k2 sc k3 cc wc (BX4.out.later hbx) (N7.out wc hbx) (Nat.lt_of_lt_of_le NL.out hbx.size) gin SC.out SCM.out yin CC.out (by omega) CCM.out)
    have HBX := Lib.hid (HB4.out.trans (hbx.mono HB4.out.size))
    have BX := Lib.hid hbx
    have TO := Lib.hid told
    clear gin yin hbx told cellC T1 T2 SGB CIN CROW
    go_wp2_with fail
    with_reducible refine GO.out.mono ?_
    rintro e w9 ⟨hb9, ⟨hE, r, rfl, _, row9⟩ | ⟨hE, rfl⟩⟩
    · have HB9 := Lib.hid (HBX.out.trans (hb9.mono HBX.out.size))
      have B9 := Lib.hid (BX.out.trans (hb9.mono BX.out.size))
      have R9 := Lib.hid row9
      clear hb9 row9
      by_cases hx : x = 0#8
      · subst hx
        have hx0 : n8 0#8 = 0 := by rw [n8_nat]; rfl
        have cv := conv_str (hid (sched key) F ys) r 0 k3 k3 w9 (fun i hi => by rw [cell_of_row _ _ _ _ _ _ R9.out, Nat.zero_add]; exact bytesArr_get _ _ _ hi)
        have es : strOf (hid (sched key) F ys) k3 = strOf f3 k3 := by
          unfold strOf strL
          congr 2
          exact List.map_congr_left (fun i hi => by rw [(TO.out.1 rfl).2 i (List.mem_range.1 hi)])
        rw [es] at cv
        have cv3 := conv_in f3 a3 k3 c3 w9 (B3X.out w9 B9.out)
        generalize strOf f3 k3 = T3 at *
        clear es
        go_wp2_with fail
        go_ret
        exact ⟨rfl, BelC.out.trans (HB9.out.mono BelC.out.size)⟩
      · have hx0 : ¬ n8 x = 0 := by
          rw [n8_nat]
          intro h
          exact hx (BitVec.eq_of_toNat_eq (by simpa using h))
        have h0 := TO.out.2 hx hE
        have ZA := Lib.hid (fun w' => zero_any key w' h0)
        have ld := load16_any key w.heap.size 0 w9 (fun i hi => by rw [cell_of_row _ _ _ _ _ _ ((HB9.out.block _ (lt_of_heap RowC.out)).trans RowC.out), Nat.zero_add]; exact letter_key _ _ _ _ i hi)
        clear h0
        go_wp2_with (first
          | (refine wpList_run_g (o := ⟨some 118, .load 22 _, _, _, _, _⟩) (v := .agg (b16 key)) (w' := w9) (by rfl) (quiet_run ld) ?_)
          | fail)
        with_reducible refine (ZA.out _).mono ?_
        rintro e w10 ⟨rfl, hb10⟩
        have HB10 := Lib.hid (HB9.out.trans (hb10.mono HB9.out.size))
        clear hb10 ld
        go_wp2_with fail
        go_ret
        exact ⟨rfl, BelC.out.trans (HB10.out.mono BelC.out.size)⟩
    · by_cases hx : x = 0#8
      · rw [(TO.out.1 hx).1] at hE
        cases hE
      · have hx0 : ¬ n8 x = 0 := by
          rw [n8_nat]
          intro h
          exact hx (BitVec.eq_of_toNat_eq (by simpa using h))
        have HB9 := Lib.hid (HBX.out.trans (hb9.mono HBX.out.size))
        clear hb9
        go_wp2_with fail
        go_ret
        exact ⟨rfl, BelC.out.trans (HB9.out.mono BelC.out.size)⟩
theorem walk {H : Type} {enc : TypeId × Value → H} (w : World) (base : Nat) (v0 v1 v2 : Value) (d0 d1 d2 : DataW H) (p0 p1 p2 : List MemPlace)
    (k0 : Value.okWide Try.prog w .any base 29 v0) (k1 : Value.okWide Try.prog w .any base 3 v1) (k2 : Value.okWide Try.prog w .any base 5 v2)
    (h0 : DataW.Trod enc Try.prog w 0 (fun _ => true) true 29 v0 d0 p0) (h1 : DataW.Trod enc Try.prog w 0 (fun _ => true) true 3 v1 d1 p1) (h2 : DataW.Trod enc Try.prog w 0 (fun _ => true) true 5 v2 d2 p2) (z0 : ∀ n ∈ DataW.weights Try.prog 29 d0, n ≤ reachBytes) (_z1 : ∀ n ∈ DataW.weights Try.prog 3 d1, n ≤ reachBytes) (_z2 : ∀ n ∈ DataW.weights Try.prog 5 d2, n ≤ reachBytes) :
    Calls Try.prog 5 #[v0, v1, v2] w fun e w' => e = .returned (.bool true) ∧ Below w.heap.size w w' := by
  obtain ⟨key, a1, n1, c1, f1, a2, n2, c2, f2, a3, n3, c3, f3, rfl, ⟨b1, b2, b3, b4⟩, ⟨b5, b6, b7⟩, b8, b9, b10⟩ := open_letter k0 h0 z0
  obtain ⟨at_, rfl, rfl, rfl, wa⟩ := open_int Try.underlying3 k1 h1
  obtain ⟨z, rfl, rfl, rfl, wz⟩ := open_int Try.underlying5 k2 h2
  have hz : 0 ≤ z ∧ z ≤ 255 := by simpa [Lit.wf, IntKind.min, IntKind.max, IntKind.signed, IntKind.bits] using wz
  have e : z = n8 (BitVec.ofNat 8 z.toNat) := by
    rw [n8_nat, BitVec.toNat_ofNat]
    omega
  rw [e]
  exact law_any key f1 f2 f3 a1 a2 a3 n1 c1 n2 c2 n3 c3 at_ _ w b1 b2 b3 b4 b5 b6 b7 b8 b9 b10
set_option maxRecDepth 100000 in
theorem lifted (os : Os) (started : os.Started) (H : Type) (enc : TypeId × Value → H) :
    ReturnsInHanded {} Try.checked os 5 .any (Rows.gcmSpoiltSpec.pre6 enc Try.prog Try.f5 Rows.gcmSpoiltRow.domain false) (Rows.gcmSpoiltSpec.post enc Try.prog Try.f5 false true false false) := by
  refine returnsInHanded_of_change_sized (C := Try.checked) own started (by kernel_rfl) Try.func5
    (ChangeSpec.witness6 (enc := enc) (C := Try.checked) false ⟨#[], #[.agg #[.int .u8 0, .int .u8 0, .int .u8 0, .int .u8 0, .int .u8 0, .int .u8 0, .int .u8 0, .int .u8 0, .int .u8 0, .int .u8 0, .int .u8 0, .int .u8 0, .int .u8 0, .int .u8 0, .int .u8 0, .int .u8 0, .slice none 0 0, .slice none 0 0, .slice none 0 0], .int .i64 0, .int .u8 0], []⟩ 8 (by kernel_rfl) (by kernel_rfl) (by kernel_rfl) (by kernel_rfl)) ?_
  intro W base args ds gs before hval0 hW hcnd hsz0 _
  have hval : ∀ (j : Nat) t v, Try.f5.params[j]? = some t → args[j]? = some v → Value.okWide Try.prog W .any base t v := hval0
  have hW' := hW
  obtain ⟨p, q, hA0, hV, rfl, hfz, hnd⟩ := hW
  have hA : DataW.TrodAll enc Try.prog W 0 (fun _ => true) true Try.f5.params.toList args.toList ds p := hA0
  rw [Try.params5] at hA hval
  obtain ⟨v0, vs0, d0, ds0, p0, q0, hargs, rfl, rfl, h0, r0⟩ := trodAll_cons hA
  obtain ⟨v1, vs1, d1, ds1, p1, q1, rfl, rfl, rfl, h1, r1⟩ := trodAll_cons r0
  obtain ⟨v2, vs2, d2, ds2, p2, q2, rfl, rfl, rfl, h2, r2⟩ := trodAll_cons r1
  obtain ⟨rfl, rfl, rfl⟩ := trodAll_nil r2
  obtain rfl : args = #[v0, v1, v2] := by cases args; simp_all
  obtain ⟨rfl, rfl⟩ := trodVars_none hV
  have k0 := h0
  have lt0 : ∀ x ∈ p0, x.block < W.heap.size := by obtain ⟨m, hm⟩ := k0; exact DataW.trod_lt m _ _ _ hm
  have k1 := h1
  have lt1 : ∀ x ∈ p1, x.block < W.heap.size := by obtain ⟨m, hm⟩ := k1; exact DataW.trod_lt m _ _ _ hm
  have k2 := h2
  have lt2 : ∀ x ∈ p2, x.block < W.heap.size := by obtain ⟨m, hm⟩ := k2; exact DataW.trod_lt m _ _ _ hm
  have z0 : ∀ n ∈ DataW.weights Try.prog 29 d0, n ≤ reachBytes := fun n hn => by
    have h1 := List.all_eq_true.1 hsz0 n
    have h2 := h1 (by
      refine DataW.weights_mem_each (j := 0) (t := 29) (d := d0) ?_ ?_ n hn
      · rw [Try.params5]; rfl
      · rfl)
    simpa using h2
  have z1 : ∀ n ∈ DataW.weights Try.prog 3 d1, n ≤ reachBytes := fun n hn => by
    have h1 := List.all_eq_true.1 hsz0 n
    have h2 := h1 (by
      refine DataW.weights_mem_each (j := 1) (t := 3) (d := d1) ?_ ?_ n hn
      · rw [Try.params5]; rfl
      · rfl)
    simpa using h2
  have z2 : ∀ n ∈ DataW.weights Try.prog 5 d2, n ≤ reachBytes := fun n hn => by
    have h1 := List.all_eq_true.1 hsz0 n
    have h2 := h1 (by
      refine DataW.weights_mem_each (j := 2) (t := 5) (d := d2) ?_ ?_ n hn
      · rw [Try.params5]; rfl
      · rfl)
    simpa using h2
  clear hA0 hval0
  refine (walk W base v0 v1 v2 d0 d1 d2 p0 p1 p2 (hval 0 29 v0 rfl rfl) (hval 1 3 v1 rfl rfl) (hval 2 5 v2 rfl rfl) k0 k1 k2 z0 z1 z2).mono fun e W' ⟨he, bel⟩ => ?_
  subst he
  exact ⟨_, rfl, _, _, _, [], _, [], hW', trodAll_mk1 (shut_bool Try.underlying4 _), (trodAll_cons_mk (Below.trod laidOut (by kernel_rfl) (of_decide_eq_true (by kernel_rfl)) k0 bel lt0) (trodAll_cons_mk (Below.trod laidOut (by kernel_rfl) (of_decide_eq_true (by kernel_rfl)) k1 bel lt1) (trodAll_cons_mk (Below.trod laidOut (by kernel_rfl) (of_decide_eq_true (by kernel_rfl)) k2 bel lt2) trodAll_mk0))), rfl, bel.frame _, fun h => by cases h⟩
theorem over : Rows.gcmSpoiltRow.holds Try.pinned (OpenSpec.ofChange Rows.gcmSpoiltSpec) :=
  OpenClaim.holds_of_wide 5 Try.f5 rfl rfl rfl rfl rfl rfl rfl ⟨rfl, rfl, rfl, rfl, rfl⟩ rfl rfl rfl rfl rfl (by kernel_rfl) Try.func5 (by kernel_rfl)
    (of_decide_eq_true (by kernel_rfl)) (by unfold Func.isWrapper; first | (rw [if_pos (by decide +kernel)]; kernel_rfl) | (rw [if_neg (by decide +kernel)]; exact ⟨rfl, rfl⟩))
    (fun os started H enc _ => lifted os started H enc)
theorem proved : Rows.GcmSpoiltSaid := over
end Go.Proofs.Ytoocglckhphepaa.gcmSpoilt
