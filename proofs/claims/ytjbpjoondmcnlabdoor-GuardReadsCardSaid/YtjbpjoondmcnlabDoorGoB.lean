/-
  GUARD's Open of bytes that are long enough: the program's.
-/
import Derived.Test.YtjbpjoondmcnlabDoorGoA
namespace Go.Proofs.YtjbpjoondmcnlabDoor
open Go Go.RowKit Go.BigFrame
set_option linter.unusedSimpArgs false
set_option linter.unusedVariables false
set_option maxRecDepth 100000
theorem Own.rowAt {B n : Nat} {v : Value} {f : Nat → BitVec 8} {w : World} (h : Own B v n f w) (hn : 0 < n) : ∃ g c, v = .slice (some ⟨g, 0, Option.none⟩) n c ∧ B ≤ g ∧ n ≤ c ∧ c ≤ maxLen ∧ RowAt w g 0 n f := by
  rcases h.row.2 with ⟨h0, _⟩ | ⟨g, cap, cur, rfl, hB, hg, hnc, hcm, hcs, ht⟩
  · omega
  · refine ⟨g, cap, rfl, hB, hnc, hcm, cur, (0, 0), hg, .inl rfl, by rw [hcs]; omega, fun i hi => ?_⟩
    have h1 := h.row.cells (g := g) rfl i (.int .u8 (n8 (f i))) (firsts_get _ _ _ hi)
    have h2 : w.cell? ⟨g, i, Option.none⟩ = some (.int .u8 (n8 (f i))) := by
      have e : ((⟨g, 0, Option.none⟩ : Addr).add i) = ⟨g, i, Option.none⟩ := by unfold Addr.add; split <;> simp_all
      rw [e] at h1
      exact h1
    rw [cell_of_row _ _ _ _ _ _ hg] at h2
    rw [Nat.zero_add]
    exact h2
set_option maxHeartbeats 4000000 in
theorem clone_any (b o n c : Nat) (f : Nat → BitVec 8) (w : World) (h : BytesIn w (some ⟨b, o, none⟩) n f) (hn : n ≤ 100000) :
    Calls Tryd.prog 37 #[.slice (some ⟨b, o, none⟩) n c] w fun e w' => ∃ v, e = .returned v ∧ Own w.heap.size v n f w' ∧ Below w.heap.size w w' := by
  have E1 := Lib.hid (Own.empty (B := w.heap.size) f w (Nat.le_refl _))
  have hal := (Below.refl w.heap.size w).alloc (Nat.le_refl _) (.cells #[] 5)
  have AL := Lib.hid hal
  have S1 := Lib.hid (src_in (bytesIn_later h hal) c)
  have heq : ∀ w', (binOp .eql 31 (.slice (some ⟨b, o, none⟩) n c) (.slice none 0 0)).run Tryd.prog w' = .ok (.bool false) w' := fun w' => run_eql_slice_nil w' 31 5 (some ⟨b, o, none⟩) n c under_bytes
  clear h hal
  go_enter Tryd.func37, Tryd.ntmps37
  go_wp2_with (at_builtin; refine wpList_append_bytes (o := ⟨some 7, _, _, _, _, _⟩) rfl _ _ 31 rfl rfl rfl E1.out S1.out (by omega) ?_; intro v5 w5 ho5 hg5; rw [Nat.zero_add] at ho5; have O5 := Lib.hid ho5; have G5 := Lib.hid (AL.out.trans (hg5.below E1.out)); clear ho5 hg5)
  go_ret
  exact ⟨v5, rfl, O5.out.congr (fun i hi => by unfold joinb; rw [if_neg (by omega), Nat.sub_zero]), G5.out⟩
set_option maxHeartbeats 8000000 in
theorem opened_any (k iv mk g xs : Nat → BitVec 8) (N : Int) (h0 : 0 ≤ N) (h1 : N ≤ 4611686018427387903) (a a' : Option Addr) (n c m c' : Nat) (hn : n ≤ c) (hcm : c ≤ maxLen) (hm : m ≤ 65000) (hmc : m + 16 ≤ c') (hcm' : c' ≤ maxLen) (w : World) (hg : BytesIn w a n g) (hx : BytesIn w a' (m + 16) xs) :
    Calls Tryd.prog 40 #[.agg (kysC (strOf k 16) (strOf iv 12) (strOf mk 16)), .slice a n c, .int .i64 N, .slice a' (m + 16) c'] w
      fun e w' => Below w.heap.size w w' ∧ ((openE (sched k) (hOf (sched k)) (nonTo iv N 8) g n xs m = true ∧ ∃ r, e = .returned (.tuple #[.slice (some ⟨r, 0, none⟩) m m, .int .i64 0]) ∧ w.heap.size ≤ r ∧ BytesIn w' (some ⟨r, 0, none⟩) m (hid (sched k) (nonTo iv N 8) xs))
        ∨ (openE (sched k) (hOf (sched k)) (nonTo iv N 8) g n xs m = false ∧ e = .returned (.tuple #[.slice none 0 0, .int .i64 4]))) := by
  have R0 : (w.alloc (.cells (kysC (strOf k 16) (strOf iv 12) (strOf mk 16)) 34)).heap[w.heap.size]? = some (.cells (kysC (strOf k 16) (strOf iv 12) (strOf mk 16)) 34 (0, 0)) := heap_alloc_last _ _
  have hb1 : Below w.heap.size w (w.alloc (.cells (kysC (strOf k 16) (strOf iv 12) (strOf mk 16)) 34)) := (Below.refl w.heap.size w).alloc (Nat.le_refl _) _
  have HB := Lib.hid hb1
  have HL := Lib.hid (show w.heap.size < (w.alloc (.cells (kysC (strOf k 16) (strOf iv 12) (strOf mk 16)) 34)).heap.size by simp)
  have CC := Lib.hid (kys_cells R0)
  have HG := Lib.hid hg
  have HX := Lib.hid hx
  have CV := Lib.hid (fun w' : World => conv_ownZ k 16 (by omega) w' w'.heap.size (Nat.le_refl _))
  have NO := Lib.hid (fun w' => nonce_any iv N h0 h1 w')
  have hmI : ¬ (65016 : Int) < (m : Int) + 16 := by omega
  clear hg hx hb1 R0
  unfold kysC at *
  generalize strOf k 16 = SK at *
  generalize strOf iv 12 = SI at *
  generalize strOf mk 16 = SM at *
  obtain ⟨c0, c1, c2⟩ := CC.out
  go_enter Tryd.func40, Tryd.ntmps40
  go_upto_region 3 with (fail)
  generalize w.alloc _ = w1 at *
  obtain ⟨v2, w2, hcv, o2, b2⟩ := CV.out w1
  obtain ⟨g2, cg2, rfl, hg2, hcg2, hcm2, rz2⟩ := o2.rowZ (by omega)
  have N2 := Lib.hid (gnew_ok k g2 0 cg2 w2 (fun i hi => by rw [Nat.zero_add]; exact rz2.at i hi) rz2.lt)
  have B2 := Lib.hid (Below.trans HB.out (b2.mono HB.out.size))
  have b2' := Lib.hid b2
  clear o2 rz2 b2 CV
  go_upto_region 4 with (go_at_call 26; refine N2.out.mono ?_; rintro e w3 ⟨p, q, rfl, hp, hb, bx⟩; have b3 := Lib.hid (b2'.out.trans (hb.mono b2'.out.size)); have B3 := Lib.hid (B2.out.trans (hb.mono B2.out.size)); have BX := Lib.hid bx; clear hp hb bx)
  clear hcv c0 c1 c2 N2 b2'
  have e1 := (b3.out.cell (p := ⟨w.heap.size, 1, none⟩) HL.out).trans CC.out.2.1
  have NO3 := Lib.hid (NO.out w3)
  clear NO
  go_wp2_with (go_at_call 28; refine NO3.out.mono ?_; rintro e w4 ⟨g4, c4, rfl, hg4, hc4, hcm4, rz4, hb4⟩; have RZ4 := Lib.hid rz4; have B4' := Lib.hid hb4; clear rz4 hb4)
  have B4 := Lib.hid (B3.out.trans (B4'.out.mono B3.out.size))
  refine (gopen_ok p q (sched k) (hOf (sched k)) (nonTo iv N 8) g xs g4 0 c4 a a' n c m c' w4 (BX.out.later B4'.out) (fun i hi => by rw [Nat.zero_add]; exact RZ4.out.at i hi) RZ4.out.lt (bytesIn_later HG.out B4.out) hn hcm (bytesIn_later HX.out B4.out) hmc (by omega) hcm').mono ?_
  rintro e w5 ⟨hb5, ⟨hE, r, rfl, hr, row⟩ | ⟨hE, rfl⟩⟩
  · have B5 := Lib.hid (B4.out.trans (hb5.mono B4.out.size))
    have HE := Lib.hid hE
    have RR := Lib.hid row
    have HR := Lib.hid (Nat.le_trans B4.out.size hr)
    clear hE row hr hb5
    go_wp2_with fail
    go_ret2
    exact ⟨B5.out, .inl ⟨HE.out, r, rfl, HR.out, in_row (by unfold maxLen; omega) RR.out⟩⟩
  · have B5 := Lib.hid (B4.out.trans (hb5.mono B4.out.size))
    have HE := Lib.hid hE
    clear hE hb5
    go_wp2_with fail
    go_ret2
    exact ⟨B5.out, .inr ⟨HE.out, rfl⟩⟩
end Go.Proofs.YtjbpjoondmcnlabDoor
