/-
  guard: the document's nonce and keys; bytes put together.
-/
import Derived.Test.YtjbpjoondmcnlabDoorGsA
namespace Go.Proofs.YtjbpjoondmcnlabDoor
open Go Go.RowKit Go.BigFrame
set_option linter.unusedSimpArgs false
set_option linter.unusedVariables false
set_option maxRecDepth 100000
theorem right_any (K I M : ByteArray) (k i m : Nat) (hK : K.size = k) (hI : I.size = i) (hM : M.size = m) (w : World) :
    Calls Tryd.prog 21 #[.agg (kysC K I M)] w fun e w' => e = .returned (.bool (decide (k = 16 ∧ i = 12 ∧ m = 16))) ∧ Below w.heap.size w w' := by
  have R0 : (w.alloc (.cells (kysC K I M) 23)).heap[w.heap.size]? = some (.cells (kysC K I M) 23 (0, 0)) := heap_alloc_last _ _
  have HB := Lib.hid ((Below.refl w.heap.size w).alloc (Nat.le_refl _) (.cells (kysC K I M) 23))
  obtain ⟨c0, c1, c2⟩ := kys_cells R0
  clear R0
  unfold kysC at *
  by_cases h1 : k = 16
  · by_cases h2 : i = 12
    · by_cases h3 : m = 16
      · rw [decide_eq_true (show k = 16 ∧ i = 12 ∧ m = 16 from ⟨h1, h2, h3⟩)]
        subst h1 h2 h3
        go_enter Tryd.func21, Tryd.ntmps21
        go_wp2_with fail
        go_ret
        exact ⟨rfl, HB.out⟩
      · rw [decide_eq_false (fun h => h3 h.2.2)]
        subst h1 h2
        have e3 : ((m : Int) == 16) = false := beq_eq_false_iff_ne.2 (by omega)
        go_enter Tryd.func21, Tryd.ntmps21
        go_wp2_with fail
        go_ret
        exact ⟨rfl, HB.out⟩
    · rw [decide_eq_false (fun h => h2 h.2.1)]
      subst h1
      have e2 : ((i : Int) == 12) = false := beq_eq_false_iff_ne.2 (by omega)
      go_enter Tryd.func21, Tryd.ntmps21
      go_wp2_with fail
      go_ret
      exact ⟨rfl, HB.out⟩
  · rw [decide_eq_false (fun h => h1 h.1)]
    have e1 : ((k : Int) == 16) = false := beq_eq_false_iff_ne.2 (by omega)
    go_enter Tryd.func21, Tryd.ntmps21
    go_wp2_with fail
    go_ret
    exact ⟨rfl, HB.out⟩
set_option maxHeartbeats 8000000 in
theorem rnonce_any (iv : Nat → BitVec 8) (N : Int) (h0 : 0 ≤ N) (h1 : N ≤ 4611686018427387903) (w : World) :
    Calls Tryd.prog 23 #[.string (strOf iv 12), .int .i64 N] w fun e w' => e = .returned (.string (strOf (nonTo iv N 8) 12)) ∧ Below w.heap.size w w' := by
  obtain ⟨v1, w1, hcv, o1, b1⟩ := conv_ownZ iv 12 (by omega) w w.heap.size (Nat.le_refl _)
  obtain ⟨g, c, rfl, hg, hc, hcm, rz⟩ := o1.rowZ (by omega)
  have RZ := Lib.hid rz
  have B1 := Lib.hid b1
  clear o1 rz b1
  generalize strOf iv 12 = SI at *
  go_enter Tryd.func23, Tryd.ntmps23
  go_wp2_with fail
  clear hcv
  go_loopw [6] (fun s6 wr => ∃ k : Nat, k ≤ 8 ∧ s6 = .int .i64 (k : Int) ∧ RowZ wr g 12 (nonTo iv N k) ∧ Below w.heap.size w wr) (fun s6 _ => 8 - (intOf s6).toNat)
  case atStart => exact ⟨0, by omega, rfl, RZ.out.congr (fun i hi => by unfold nonTo; rw [if_neg (by omega)]), B1.out⟩
  case round =>
    clear RZ B1
    obtain ⟨k, hk, rfl, rz, bel⟩ := hrel
    have BEL := Lib.hid bel
    have RZ := Lib.hid rz
    clear bel rz
    by_cases hlt : k < 8
    · have hlI : (k : Int) < 8 := by omega
      have c1 := RZ.out.at (11 - k) (by omega)
      have f1 := RZ.out.free (11 - k) (by omega)
      have hi1 : (11 : Int) - (k : Int) = ((11 - k : Nat) : Int) := by omega
      have hx : nonTo iv N k (11 - k) = iv (11 - k) := by unfold nonTo; rw [if_neg (by omega)]
      rw [hx] at c1
      generalize hj : 11 - k = j at *
      go_upto_region 5 with (fail)
      go_region
      go_wp2_with fail
      have ex : bits .xor .u8 (n8 (iv j)) (N / 2 ^ (8 * k) % 256) = n8 (iv j ^^^ BitVec.ofInt 8 (N / 2 ^ (8 * k))) := by
        rw [numB_at']; exact xor_b _ _
      rw [ex]
      refine ⟨⟨k + 1, by omega, by go_num, ?_, (BEL.out.setCell (by omega) _).drew⟩, (by simp [intOf] <;> omega)⟩
      obtain ⟨cur, fr, r⟩ := (RZ.out.set j (iv j ^^^ BitVec.ofInt 8 (N / 2 ^ (8 * k)))).congr (f' := nonTo iv N (k + 1)) (fun i hi => by
        unfold updb nonTo
        by_cases hij : i = j
        · subst hij
          rw [if_pos rfl, if_pos (by omega), show 11 - i = k by omega]
        · rw [if_neg hij]
          by_cases h2 : 12 - k ≤ i ∧ i < 12
          · rw [if_pos h2, if_pos (by omega)]
          · rw [if_neg h2, if_neg (by omega)])
      exact ⟨cur, fr, r⟩
    · obtain rfl : k = 8 := by omega
      have hN : ¬ (((8 : Nat) : Int) < 8) := by omega
      have cv := conv_in _ _ 12 c wr (RZ.out.bytesIn (by unfold maxLen; omega))
      go_wp2_with fail
      go_ret
      exact ⟨rfl, BEL.out⟩
/-- The first m bytes from o on, put together with another row's. -/
def togF (f m : Nat → BitVec 8) (o n i : Nat) : BitVec 8 := if o ≤ i ∧ i < o + n then f i ^^^ m (i - o) else f i
set_option maxHeartbeats 8000000 in
theorem gtogether_any (g o n c len : Nat) (f : Nat → BitVec 8) (a : Option Addr) (m c2 : Nat) (p : Nat → BitVec 8) (w : World) (h : RowZ w g len f) (ho : o + n ≤ len) (hp : BytesIn w a m p) (hnm : n ≤ m) (hne : ∀ x, a = some x → x.block ≠ g) :
    Calls Tryd.prog 32 #[.slice (some ⟨g, o, none⟩) n c, .slice a m c2] w fun e w' => e = .returned (.tuple #[]) ∧ RowZ w' g len (togF f p o n) ∧ (∀ B, B ≤ g → Below B w w') ∧ ∀ k, k ≠ g → w'.heap[k]? = w.heap[k]? := by
  have H := Lib.hid h
  have HP := Lib.hid hp
  have HN := Lib.hid hne
  clear h hp hne
  go_enter Tryd.func32, Tryd.ntmps32
  go_wp2_with fail
  go_loopw [4, 7] (fun _ s7 wr => ∃ k : Nat, k ≤ n ∧ s7 = .int .i64 (k : Int) ∧ RowZ wr g len (togF f p o k) ∧ (∀ B, B ≤ g → Below B w wr) ∧ ∀ k, k ≠ g → wr.heap[k]? = w.heap[k]?) (fun _ s7 _ => n - (intOf s7).toNat)
  case atStart => exact ⟨0, by omega, rfl, H.out.congr (fun i hi => by unfold togF; rw [if_neg (by omega)]), fun B _ => Below.refl _ _, fun _ _ => rfl⟩
  case round =>
    obtain ⟨k, hk, rfl, rz, bel, oth⟩ := hrel
    have BEL := Lib.hid bel
    have RZ := Lib.hid rz
    have OT := Lib.hid oth
    clear bel rz oth
    by_cases hlt : k < n
    · have hlI : (k : Int) < (n : Int) := by omega
      have hmI : (k : Int) < (m : Int) := by omega
      obtain ⟨_, h0 | ⟨b, ob, rfl, hb, hc⟩⟩ := HP.out
      · omega
      have hbg : b ≠ g := HN.out _ rfl
      have k1 : wr.cell? ⟨b, ob + k, none⟩ = some (.int .u8 (n8 (p k))) := by
        have h2 := hc k (by omega)
        unfold World.cell? at h2 ⊢
        simp only [OT.out b hbg]
        exact h2
      have c1 := RZ.out.at (o + k) (by omega)
      have f1 := RZ.out.free (o + k) (by omega)
      have hx : togF f p o k (o + k) = f (o + k) := by unfold togF; rw [if_neg (by omega)]
      rw [hx] at c1
      clear hc
      go_upto_region 3 with (fail)
      go_region
      go_wp2_with fail
      have hml := HP.out.1
      have hw : wrap64 ((k : Int) + 1) = ((k + 1 : Nat) : Int) := by unfold maxLen at hml; unfold wrap64; omega
      rw [hw]
      refine ⟨⟨k + 1, by omega, rfl, ?_, fun B hB => ((BEL.out B hB).setCell hB _).drew, fun j hj => (heap_setCell_other _ _ _ _ hj).trans (OT.out j hj)⟩, (by simp [intOf] <;> omega)⟩
      obtain ⟨cur, fr, r⟩ := (RZ.out.set (o + k) (f (o + k) ^^^ p k)).congr (f' := togF f p o (k + 1)) (fun i hi => by
        unfold updb togF
        by_cases hij : i = o + k
        · subst hij
          rw [if_pos rfl, if_pos (by omega), show o + k - o = k by omega]
        · rw [if_neg hij]
          by_cases h2 : o ≤ i ∧ i < o + k
          · rw [if_pos h2, if_pos (by omega)]
          · rw [if_neg h2, if_neg (by omega)])
      exact ⟨cur, fr, r⟩
    · obtain rfl : k = n := by omega
      have hN : ¬ ((k : Int) < (k : Int)) := by omega
      go_wp2_with fail
      go_end0
      exact ⟨rfl, RZ.out, BEL.out, OT.out⟩
end Go.Proofs.YtjbpjoondmcnlabDoor
