/-
  guard: the document's Seal.
-/
import Derived.Test.YtjbpjoondmcnlabDoorGsD
import Derived.Test.YtjbpjoondmcnlabDoorGsE
namespace Go.Proofs.YtjbpjoondmcnlabDoor
open Go Go.RowKit Go.BigFrame
set_option linter.unusedSimpArgs false
set_option linter.unusedVariables false
set_option maxRecDepth 100000
theorem num_iff (g : Nat → BitVec 8) : ∀ (s n : Nat), numG g s = n % 256 ^ s ↔ ∀ i, i < s → (g (s - 1 - i)).toNat = n / 256 ^ i % 256
  | 0, n => by simp [numG, Nat.mod_one]
  | s + 1, n => by
    have ih := num_iff g s (n / 256)
    have hp : (256 : Nat) ^ (s + 1) = 256 * 256 ^ s := by rw [Nat.pow_succ, Nat.mul_comm]
    have hg := (g s).isLt
    show numG g s * 256 + (g s).toNat = n % 256 ^ (s + 1) ↔ _
    rw [hp, Nat.mod_mul]
    constructor
    · intro h
      have h1 : numG g s = n / 256 % 256 ^ s := by omega
      have h2 : (g s).toNat = n % 256 := by omega
      intro i hi
      cases i with
      | zero => rw [Nat.pow_zero, Nat.div_one]; exact h2
      | succ i =>
        have h3 := ih.1 h1 i (by omega)
        rw [Nat.pow_succ, Nat.mul_comm, ← Nat.div_div_eq_div_mul, show s + 1 - 1 - (i + 1) = s - 1 - i by omega]
        exact h3
    · intro h
      have h1 := ih.2 (fun i hi => by
        have h3 := h (i + 1) (by omega)
        rw [Nat.pow_succ, Nat.mul_comm, ← Nat.div_div_eq_div_mul, show s + 1 - 1 - (i + 1) = s - 1 - i by omega] at h3
        exact h3)
      have h2 := h 0 (by omega)
      rw [Nat.pow_zero, Nat.div_one, show s + 1 - 1 - 0 = s by omega] at h2
      omega
theorem form_iff (f : Nat → BitVec 8) (m s : Nat) (N : Int) (h0 : 0 ≤ N) (hs : s ≤ m) : ((numG (fun i => f (m - s + i)) s : Nat) : Int) = N % 2 ^ (8 * s) ↔ ∀ i, i < s → n8 (f (m - 1 - i)) = N / 2 ^ (8 * i) % 256 := by
  obtain ⟨n, rfl⟩ := Int.eq_ofNat_of_zero_le h0
  have hp : ∀ j : Nat, (2 : Int) ^ (8 * j) = ((256 ^ j : Nat) : Int) := fun j => by rw [Int.pow_mul]; simp
  rw [hp, ← Int.natCast_emod]
  constructor
  · intro h i hi
    have h1 := (num_iff _ s n).1 (Int.ofNat_inj.1 h) i hi
    rw [hp, n8_nat, show m - 1 - i = m - s + (s - 1 - i) by omega, h1]
    simp
  · intro h
    refine congrArg _ ((num_iff _ s n).2 fun i hi => ?_)
    have h1 := h i hi
    rw [hp, n8_nat, show m - 1 - i = m - s + (s - 1 - i) by omega] at h1
    exact Int.ofNat_inj.1 (by rw [h1]; simp)
set_option maxHeartbeats 4000000 in
theorem docSeal_arg (K I M : ByteArray) (k i mm : Nat) (hK : K.size = k) (hI : I.size = i) (hM : M.size = mm) (S N : Int) (hS0 : 0 - 9223372036854775808 ≤ S) (hS1 : S ≤ 9223372036854775807) (H C : ByteArray) (m : Nat) (hH : H.size = m) (hm : m ≤ 4000) (w : World) (hbad : badArg k i mm m S N) :
    Calls Tryd.prog 10 #[.agg (kysC K I M), .string H, .int .i64 S, .int .i64 N, .string C] w fun e w' => e = .returned (.tuple #[.string ⟨#[]⟩, .int .i64 1]) ∧ Below w.heap.size w w' := by
  have R0 : (w.alloc (.cells (kysC K I M) 23)).heap[w.heap.size]? = some (.cells (kysC K I M) 23 (0, 0)) := heap_alloc_last _ _
  have hb1 : Below w.heap.size w (w.alloc (.cells (kysC K I M) 23)) := (Below.refl w.heap.size w).alloc (Nat.le_refl _) _
  have HB := Lib.hid hb1
  have WH := Lib.hid (right_any K I M k i mm hK hI hM (w.alloc (.cells (kysC K I M) 23)))
  obtain ⟨c0, c1, c2⟩ := kys_cells R0
  have BAD := Lib.hid hbad
  clear hbad hb1 R0 hK hI hM
  unfold kysC at *
  by_cases h1 : S < 1
  · go_enter Tryd.func10, Tryd.ntmps10
    go_wp2_with fail
    go_ret2
    exact ⟨rfl, HB.out⟩
  by_cases h2 : S > 4
  · go_enter Tryd.func10, Tryd.ntmps10
    go_wp2_with fail
    go_ret2
    exact ⟨rfl, HB.out⟩
  by_cases h3 : N < 0
  · go_enter Tryd.func10, Tryd.ntmps10
    go_wp2_with fail
    go_ret2
    exact ⟨rfl, HB.out⟩
  by_cases h3' : N > 4611686018427387903
  · go_enter Tryd.func10, Tryd.ntmps10
    go_wp2_with fail
    go_ret2
    exact ⟨rfl, HB.out⟩
  by_cases h4 : k = 16 ∧ i = 12 ∧ mm = 16
  · have WH2 := Lib.hid (by have := WH.out; rw [decide_eq_true h4] at this; exact this)
    have h5 : (m : Int) < S + 1 := by
      rcases BAD.out with h | h | h | h | h
      · omega
      · omega
      · omega
      · exact absurd h4 h
      · exact h
    clear BAD WH h4
    go_enter Tryd.func10, Tryd.ntmps10
    go_wp2_with (go_at_call 21; refine WH2.out.mono ?_; rintro e w1 ⟨rfl, hb⟩; have B1 := Lib.hid (HB.out.trans (hb.mono HB.out.size)); clear hb)
    go_ret2
    exact ⟨rfl, B1.out⟩
  · have WH2 := Lib.hid (by have := WH.out; rw [decide_eq_false h4] at this; exact this)
    clear BAD WH h4
    go_enter Tryd.func10, Tryd.ntmps10
    go_wp2_with (go_at_call 21; refine WH2.out.mono ?_; rintro e w1 ⟨rfl, hb⟩; have B1 := Lib.hid (HB.out.trans (hb.mono HB.out.size)); clear hb)
    go_ret2
    exact ⟨rfl, B1.out⟩
/-- A packet's bytes: the head, what is carried, sealed, its first byte and number hidden. -/
def packF (k iv mk f xs : Nat → BitVec 8) (N : Int) (m s n : Nat) : Nat → BitVec 8 := hidP mk (joinb f m (sealF (sched k) (hOf (sched k)) (nonTo iv N 8) f m xs n)) (m - s) s
def sealR (k iv mk f xs : Nat → BitVec 8) (N : Int) (m s n : Nat) (T : ByteArray) (r : Int) : Prop :=
  (¬ formOk f m s N ∧ r = 2 ∧ T = ⟨#[]⟩) ∨ (formOk f m s N ∧ n + s < 4 ∧ r = 3 ∧ T = ⟨#[]⟩) ∨ (formOk f m s N ∧ ¬ n + s < 4 ∧ 65000 < n ∧ r = 5 ∧ T = ⟨#[]⟩) ∨ (formOk f m s N ∧ ¬ n + s < 4 ∧ ¬ 65000 < n ∧ r = 0 ∧ T = strOf (packF k iv mk f xs N m s n) (m + (n + 16)))
set_option maxHeartbeats 16000000 in
theorem docSeal_ok (k iv mk f xs : Nat → BitVec 8) (N : Int) (h0 : 0 ≤ N) (h1 : N ≤ 4611686018427387903) (s m n : Nat) (hs1 : 1 ≤ s) (hs4 : s ≤ 4) (hm : m ≤ 4000) (hsm : s + 1 ≤ m) (hn : n ≤ 1000000) (w : World) (T : ByteArray) (r : Int) (hr : sealR k iv mk f xs N m s n T r) :
    Calls Tryd.prog 10 #[.agg (kysC (strOf k 16) (strOf iv 12) (strOf mk 16)), .string (strOf f m), .int .i64 (s : Int), .int .i64 N, .string (strOf xs n)] w fun e w' => e = .returned (.tuple #[.string T, .int .i64 r]) ∧ Below w.heap.size w w' := by
  have R0 : (w.alloc (.cells (kysC (strOf k 16) (strOf iv 12) (strOf mk 16)) 23)).heap[w.heap.size]? = some (.cells (kysC (strOf k 16) (strOf iv 12) (strOf mk 16)) 23 (0, 0)) := heap_alloc_last _ _
  have hb1 : Below w.heap.size w (w.alloc (.cells (kysC (strOf k 16) (strOf iv 12) (strOf mk 16)) 23)) := (Below.refl w.heap.size w).alloc (Nat.le_refl _) _
  have HB := Lib.hid hb1
  have WH := Lib.hid (by have := right_any (strOf k 16) (strOf iv 12) (strOf mk 16) 16 12 16 (strOf_size _ _) (strOf_size _ _) (strOf_size _ _) (w.alloc (.cells (kysC (strOf k 16) (strOf iv 12) (strOf mk 16)) 23)); rw [decide_eq_true (show 16 = 16 ∧ 12 = 12 ∧ 16 = 16 from ⟨rfl, rfl, rfl⟩)] at this; exact this)
  have HL := Lib.hid (show w.heap.size < (w.alloc (.cells (kysC (strOf k 16) (strOf iv 12) (strOf mk 16)) 23)).heap.size by simp)
  have CC := Lib.hid (kys_cells R0)
  have NO := Lib.hid (fun w' => rnonce_any iv N h0 h1 w')
  have SE := Lib.hid (fun w' => sealD_ok k (nonTo iv N 8) f xs m n w' (by omega) (by omega))
  have MK := Lib.hid (fun (hns : ¬ n + s < 4) (hn5 : ¬ 65000 < n) (w' : World) => by
    have h := masked_any mk (joinb f m (sealF (sched k) (hOf (sched k)) (nonTo iv N 8) f m xs n)) (strOf k 16) (strOf iv 12) (m + (n + 16)) (m - s) s hs4 (by omega) (by omega) (by omega) w'
    rw [show ((m - s : Nat) : Int) = (m : Int) - (s : Int) by omega, show hidP mk (joinb f m (sealF (sched k) (hOf (sched k)) (nonTo iv N 8) f m xs n)) (m - s) s = packF k iv mk f xs N m s n from rfl] at h
    exact h)
  have ej := joined f (sealF (sched k) (hOf (sched k)) (nonTo iv N 8) f m xs n) m (n + 16)
  have hsz := strOf_size f m
  have hsz2 := strOf_size xs n
  have hsz3 := strOf_size (sealF (sched k) (hOf (sched k)) (nonTo iv N 8) f m xs n) (n + 16)
  have i0 := fun w' => run_at_str f m 0 (by omega) w'
  have IK := Lib.hid (fun (j : Nat) (hj : j < m) (w' : World) => run_at_str f m j hj w')
  have FI := Lib.hid (form_iff f m s N h0 (by omega))
  unfold sealR formOk at hr
  have HR := Lib.hid hr
  have q1 : ¬ 9223372036854775807 < m + (n + 16) := by omega
  have hsI : ¬ (s : Int) < 1 := by omega
  have hsI4 : ¬ (4 : Int) < (s : Int) := by omega
  have hmI : ¬ (m : Int) < (s : Int) + 1 := by omega
  have hq4 : n8 (f 0) % 4 = (((f 0).toNat % 4 : Nat) : Int) := by rw [n8_nat]; omega
  have hq5 : (wrap64 (n8 (f 0))).tmod 4 = (((f 0).toNat % 4 : Nat) : Int) := by
    have h8 := (f 0).isLt
    rw [show wrap64 (n8 (f 0)) = n8 (f 0) by rw [n8_nat]; unfold wrap64; omega, Int.tmod_eq_emod_of_nonneg (by rw [n8_nat]; omega)]; exact hq4
  have hN0 : ¬ N < 0 := by omega
  have hN1 : ¬ 4611686018427387903 < N := by omega
  clear hq4
  generalize hQ : (f 0).toNat % 4 = q at *
  generalize numG (fun i => f (m - s + i)) s = G at *
  clear hr hb1 R0 hQ
  generalize strOf (joinb f m (sealF (sched k) (hOf (sched k)) (nonTo iv N 8) f m xs n)) (m + (n + 16)) = SJ at *
  generalize strOf (sealF (sched k) (hOf (sched k)) (nonTo iv N 8) f m xs n) (n + 16) = SB at *
  generalize strOf (packF k iv mk f xs N m s n) (m + (n + 16)) = SP at *
  generalize strOf (nonTo iv N 8) 12 = SN at *
  unfold kysC at *
  generalize strOf k 16 = SK at *
  generalize strOf iv 12 = SI at *
  generalize strOf mk 16 = SM at *
  generalize strOf f m = SH at *
  generalize strOf xs n = SC at *
  simp only [Int.ofNat_zero, Int.natCast_zero] at i0
  obtain ⟨c0, c1, c2⟩ := CC.out
  by_cases hqs : (q : Int) = (s : Int) - 1
  · have hqb : ((q : Int) != (s : Int) - 1) = false := by rw [hqs]; exact bne_self_eq_false _
    go_enter Tryd.func10, Tryd.ntmps10
    go_wp2_with (go_at_call 21; refine WH.out.mono ?_; rintro e w1 ⟨rfl, hb⟩; have B1 := Lib.hid (HB.out.trans (hb.mono HB.out.size)); have L1 := Lib.hid (Nat.lt_of_lt_of_le HL.out hb.size); have K1 := Lib.hid (fun (i : Nat) => hb.cell (p := ⟨w.heap.size, i, none⟩) HL.out); clear hb)
    clear WH HB HL
    go_loopw [13] (fun s13 wr => ∃ i : Nat, i ≤ s ∧ s13 = .int .i64 (i : Int) ∧ (∀ j, j < i → n8 (f (m - 1 - j)) = N / 2 ^ (8 * j) % 256) ∧ Below w1.heap.size w1 wr) (fun s13 _ => s - (intOf s13).toNat)
    case atStart => exact ⟨0, by omega, rfl, fun j hj => by omega, Below.refl _ _⟩
    case round =>
      obtain ⟨i, hi, rfl, hag, hbr⟩ := hrel
      have AG := Lib.hid hag
      have BR := Lib.hid hbr
      clear hag hbr
      by_cases hlt : i < s
      · have hlI : (i : Int) < (s : Int) := by omega
        have ik := IK.out (m - 1 - i) (by omega)
        have him : (m : Int) - 1 - (i : Int) = ((m - 1 - i : Nat) : Int) := by omega
        by_cases heq : n8 (f (m - 1 - i)) = N / 2 ^ (8 * i) % 256
        · have hbe : (n8 (f (m - 1 - i)) != N / 2 ^ (8 * i) % 256) = false := by rw [heq]; exact bne_self_eq_false _
          have HE := Lib.hid heq
          clear heq
          go_upto_region 9 with (fail)
          go_region
          go_wp2_with fail
          go_roundw
          case rel => exact ⟨i + 1, by omega, by go_num, fun j hj => by
            by_cases hji : j < i
            · exact AG.out j hji
            · obtain rfl : j = i := by omega
              exact HE.out, BR.out.drew⟩
          case measure => (simp [intOf] <;> omega)
        · have hbe : (n8 (f (m - 1 - i)) != N / 2 ^ (8 * i) % 256) = true := bne_iff_ne.2 heq
          obtain ⟨rfl, rfl⟩ : r = 2 ∧ T = ⟨#[]⟩ := by
            have hno : ¬ (G : Int) = N % 2 ^ (8 * s) := fun h => heq (FI.out.1 h i hlt)
            rcases HR.out with h | h | h | h
            · exact h.2
            · exact absurd h.1.2 hno
            · exact absurd h.1.2 hno
            · exact absurd h.1.2 hno
          clear heq
          go_upto_region 9 with (fail)
          go_region
          go_wp2_with fail
          go_ret2
          exact ⟨rfl, (B1.out.trans (BR.out.mono B1.out.size)).drew⟩
      · obtain rfl : i = s := by omega
        have hN : ¬ ((i : Int) < (i : Int)) := by omega
        have hG := FI.out.2 AG.out
        have hnot : ¬ ¬ (q + 1 = i ∧ (G : Int) = N % 2 ^ (8 * i)) := fun h => h ⟨by omega, hG⟩
        by_cases hns : n + i < 4
        · obtain ⟨rfl, rfl⟩ : r = 3 ∧ T = ⟨#[]⟩ := by
            rcases HR.out with h | h | h | h
            · exact absurd h.1 hnot
            · exact h.2.2
            · exact absurd hns h.2.1
            · exact absurd hns h.2.1
          have hnI : (n : Int) < 4 - (i : Int) := by omega
          clear hnot hG
          go_wp2_with fail
          go_ret2
          exact ⟨rfl, B1.out.trans (BR.out.mono B1.out.size)⟩
        · have hnI : ¬ (n : Int) < 4 - (i : Int) := by omega
          by_cases hn5 : 65000 < n
          · obtain ⟨rfl, rfl⟩ : r = 5 ∧ T = ⟨#[]⟩ := by
              rcases HR.out with h | h | h | h
              · exact absurd h.1 hnot
              · exact absurd h.2.1 hns
              · exact h.2.2.2
              · exact absurd hn5 h.2.2.1
            have hnI5 : (65000 : Int) < (n : Int) := by omega
            clear hnot hG
            go_wp2_with fail
            go_ret2
            exact ⟨rfl, B1.out.trans (BR.out.mono B1.out.size)⟩
          · obtain ⟨rfl, rfl⟩ : r = 0 ∧ T = SP := by
              rcases HR.out with h | h | h | h
              · exact absurd h.1 hnot
              · exact absurd h.2.1 hns
              · exact absurd h.2.2.1 hn5
              · exact h.2.2.2
            have hnI5 : ¬ (65000 : Int) < (n : Int) := by omega
            have MM := Lib.hid (MK.out hns hn5)
            have LR := Lib.hid (Nat.lt_of_lt_of_le L1.out BR.out.size)
            have CR := Lib.hid (show wr.cell? ⟨w.heap.size, 0, none⟩ = some (.string SK) ∧ wr.cell? ⟨w.heap.size, 1, none⟩ = some (.string SI) ∧ wr.cell? ⟨w.heap.size, 2, none⟩ = some (.string SM) from
              ⟨((BR.out.cell (p := ⟨w.heap.size, 0, none⟩) L1.out).trans (K1.out 0)).trans CC.out.1, ((BR.out.cell (p := ⟨w.heap.size, 1, none⟩) L1.out).trans (K1.out 1)).trans CC.out.2.1, ((BR.out.cell (p := ⟨w.heap.size, 2, none⟩) L1.out).trans (K1.out 2)).trans CC.out.2.2⟩)
            have BB := Lib.hid (B1.out.trans (BR.out.mono B1.out.size))
            clear hnot hG MK AG FI IK B1 BR K1 L1 CC c0 c1 c2
            go_upto_region 15 with (fail)
            refine region_class1 13 (fun w' => Below wr.heap.size wr w') mixedOrders (by kernel_rfl) (Below.refl _ _).drew rfl ?_
            refine wpQuiet_take (by rfl) (fun K hK => ⟨.pointer (some ⟨w.heap.size, 0, none⟩), fun w2' hw2 => ?_, hK _ ?_⟩)
            · clear hw2; go_simp
            clear hK K
            simp only [Act.put, List.setIfInBounds_toArray, List.set_cons_succ, List.set_cons_zero]
            refine wpQuiet_take (by rfl) (fun K hK => ⟨.string SK, fun w2' hw2 => ?_, hK _ ?_⟩)
            · have hc := (hw2.cell (p := ⟨w.heap.size, 0, none⟩) LR.out).trans CR.out.1
              clear hw2
              go_simp
            clear hK K
            simp only [Act.put, List.setIfInBounds_toArray, List.set_cons_succ, List.set_cons_zero]
            refine wpQuiet_take (by rfl) (fun K hK => ⟨.pointer (some ⟨w.heap.size, 1, none⟩), fun w2' hw2 => ?_, hK _ ?_⟩)
            · clear hw2; go_simp
            clear hK K
            simp only [Act.put, List.setIfInBounds_toArray, List.set_cons_succ, List.set_cons_zero]
            refine wpQuiet_take (by rfl) (fun K hK => ⟨.string SI, fun w2' hw2 => ?_, hK _ ?_⟩)
            · have hc := (hw2.cell (p := ⟨w.heap.size, 1, none⟩) LR.out).trans CR.out.2.1
              clear hw2
              go_simp
            clear hK K
            simp only [Act.put, List.setIfInBounds_toArray, List.set_cons_succ, List.set_cons_zero]
            refine wpQuiet_take (by rfl) (fun K hK => ⟨.int .i64 N, fun w2' hw2 => ?_, hK _ ?_⟩)
            · clear hw2; go_simp
            clear hK K
            simp only [Act.put, List.setIfInBounds_toArray, List.set_cons_succ, List.set_cons_zero]
            refine wpQuiet_take (by rfl) (fun K hK => ⟨.string SN, fun w2' hw2 => ?_, hK _ ?_⟩)
            · go_simp
              go_at_call 23
              refine (NO.out w2').mono ?_
              rintro e w5 ⟨rfl, hb5⟩
              exact ⟨rfl, hw2.trans (hb5.mono hw2.size)⟩
            clear hK K
            simp only [Act.put, List.setIfInBounds_toArray, List.set_cons_succ, List.set_cons_zero]
            refine wpQuiet_take (by rfl) (fun K hK => ⟨.string SH, fun w2' hw2 => ?_, hK _ ?_⟩)
            · clear hw2; go_simp
            clear hK K
            simp only [Act.put, List.setIfInBounds_toArray, List.set_cons_succ, List.set_cons_zero]
            refine wpQuiet_take (by rfl) (fun K hK => ⟨.string SC, fun w2' hw2 => ?_, hK _ ?_⟩)
            · clear hw2; go_simp
            clear hK K
            simp only [Act.put, List.setIfInBounds_toArray, List.set_cons_succ, List.set_cons_zero]
            refine wpQuiet_take (by rfl) (fun K hK => ⟨.tuple #[.string SB, .int .i64 0], fun w2' hw2 => ?_, hK _ ?_⟩)
            · go_simp
              go_at_call 22
              refine (SE.out w2').mono ?_
              rintro e w5 ⟨rfl, hb5⟩
              exact ⟨rfl, hw2.trans (hb5.mono hw2.size)⟩
            clear hK K
            simp only [Act.put, List.setIfInBounds_toArray, List.set_cons_succ, List.set_cons_zero]
            refine wpQuiet_take (by rfl) (fun K hK => ⟨.tuple #[.string SB, .int .i64 0], fun w2' hw2 => ?_, hK _ ?_⟩)
            · clear hw2; go_simp
            clear hK K
            simp only [Act.put, List.setIfInBounds_toArray, List.set_cons_succ, List.set_cons_zero]
            refine wpQuiet_take (by rfl) (fun K hK => ⟨.string SB, fun w2' hw2 => ?_, hK _ ?_⟩)
            · clear hw2; go_simp
            clear hK K
            simp only [Act.put, List.setIfInBounds_toArray, List.set_cons_succ, List.set_cons_zero]
            refine wpQuiet_take (by rfl) (fun K hK => ⟨.int .i64 0, fun w2' hw2 => ?_, hK _ ?_⟩)
            · clear hw2; go_simp
            clear hK K
            simp only [Act.put, List.setIfInBounds_toArray, List.set_cons_succ, List.set_cons_zero]
            refine wpQuiet_take (by rfl) (fun K hK => ⟨.string SB, fun w2' hw2 => ?_, hK _ ?_⟩)
            · clear hw2; go_simp
            clear hK K
            simp only [Act.put, List.setIfInBounds_toArray, List.set_cons_succ, List.set_cons_zero]
            refine wpQuiet_take0 ?_
            intro w6 hb6
            have d0 := (hb6.cell (p := ⟨w.heap.size, 0, none⟩) LR.out).trans CR.out.1
            have d1 := (hb6.cell (p := ⟨w.heap.size, 1, none⟩) LR.out).trans CR.out.2.1
            have d2 := (hb6.cell (p := ⟨w.heap.size, 2, none⟩) LR.out).trans CR.out.2.2
            have B6 := Lib.hid (BB.out.trans (hb6.mono BB.out.size))
            clear hb6 BB NO SE
            go_wp2_with (go_at_call 24; refine (MM.out _).mono ?_; rintro e w7 ⟨rfl, hb⟩; have B7 := Lib.hid (B6.out.trans (hb.mono B6.out.size)); clear hb)
            go_ret2
            exact ⟨rfl, B7.out⟩
  · have hqb : ((q : Int) != (s : Int) - 1) = true := bne_iff_ne.2 hqs
    obtain ⟨rfl, rfl⟩ : r = 2 ∧ T = ⟨#[]⟩ := by
      rcases HR.out with h | h | h | h
      · exact h.2
      · omega
      · omega
      · omega
    clear HR
    go_enter Tryd.func10, Tryd.ntmps10
    go_wp2_with (go_at_call 21; refine WH.out.mono ?_; rintro e w1 ⟨rfl, hb⟩; have B1 := Lib.hid (HB.out.trans (hb.mono HB.out.size)); clear hb)
    go_ret2
    exact ⟨rfl, B1.out⟩
end Go.Proofs.YtjbpjoondmcnlabDoor
