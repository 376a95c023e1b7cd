/-
  guard: Seal.
-/
import Derived.Test.YtjbpjoondmcnlabDoorGsF
import Derived.Test.YtjbpjoondmcnlabDoorConc
namespace Go.Proofs.YtjbpjoondmcnlabDoor
open Go Go.RowKit Go.BigFrame
set_option linter.unusedSimpArgs false
set_option linter.unusedVariables false
set_option maxRecDepth 100000
/-- A row of one's own bytes within its block, its end marked or not. -/
def RowAt (w : World) (g e n : Nat) (f : Nat → BitVec 8) : Prop := ∃ (cur : Array Value) (fr : Nat × Nat), w.heap[g]? = some (.cells cur 5 fr) ∧ (fr.2 = 0 ∨ cur.size ≤ fr.1) ∧ e + n ≤ cur.size ∧ ∀ i, i < n → cur[e + i]? = some (.int .u8 (n8 (f i)))
theorem RowAt.lt {w : World} {g e n : Nat} {f : Nat → BitVec 8} (h : RowAt w g e n f) : g < w.heap.size := by
  obtain ⟨cur, fr, h1, _⟩ := h
  exact lt_of_heap h1
theorem RowAt.at {w : World} {g e n : Nat} {f : Nat → BitVec 8} (h : RowAt w g e n f) (i : Nat) (hi : i < n) : w.cell? ⟨g, e + i, none⟩ = some (.int .u8 (n8 (f i))) := by
  obtain ⟨cur, fr, h1, _, _, h4⟩ := h
  rw [cell_of_row _ _ _ _ _ _ h1]; exact h4 i hi
theorem RowAt.free {w : World} {g e n : Nat} {f : Nat → BitVec 8} (h : RowAt w g e n f) (i : Nat) (hi : i < n) : w.frozen? ⟨g, e + i, none⟩ = false := by
  obtain ⟨cur, fr, h1, h2, h3, _⟩ := h
  exact frozenF h1 h2 (by omega)
theorem RowAt.set {w : World} {g e n : Nat} {f : Nat → BitVec 8} (h : RowAt w g e n f) (j : Nat) (x : BitVec 8) : RowAt (w.setCell ⟨g, e + j, none⟩ (.int .u8 (n8 x))) g e n (updb f j x) := by
  obtain ⟨cur, fr, h1, h2, h3, h4⟩ := h
  obtain ⟨cs', e1, e2, e3⟩ := setCells_rowF g 5 fr [.int .u8 (n8 x)] (e + j) w cur h1
  refine ⟨cs', fr, e1, by rw [e2]; exact h2, by rw [e2]; exact h3, fun i hi => ?_⟩
  rw [e3]
  unfold updb
  by_cases hij : i = j
  · subst hij
    rw [if_pos ⟨by omega, by simp, by omega⟩, if_pos rfl]; simp
  · rw [if_neg (by simp; omega), if_neg hij]; exact h4 i hi
theorem RowAt.congr {w : World} {g e n : Nat} {f f' : Nat → BitVec 8} (h : RowAt w g e n f) (hf : ∀ i, i < n → f i = f' i) : RowAt w g e n f' := by
  obtain ⟨cur, fr, h1, h2, h3, h4⟩ := h
  exact ⟨cur, fr, h1, h2, h3, fun i hi => by rw [h4 i hi, hf i hi]⟩
theorem RowAt.later {w w' : World} {g e n : Nat} {f : Nat → BitVec 8} (h : RowAt w g e n f) (hb : Below w.heap.size w w') : RowAt w' g e n f := by
  obtain ⟨cur, fr, h1, r⟩ := h
  exact ⟨cur, fr, (hb.block g (lt_of_heap h1)).trans h1, r⟩
theorem RowAt.bytesIn {w : World} {g e n : Nat} {f : Nat → BitVec 8} (h : RowAt w g e n f) (hn : n ≤ maxLen) : BytesIn w (some ⟨g, e, none⟩) n f := ⟨hn, .inr ⟨g, e, rfl, h.lt, fun i hi => h.at i hi⟩⟩
theorem OwnAt.rowAt {B n : Nat} {v : Value} {f : Nat → BitVec 8} {w : World} (h : OwnAt B v n f w) (hn : 0 < n) : ∃ g e c, v = .slice (some ⟨g, e, none⟩) n c ∧ B ≤ g ∧ n ≤ c ∧ c ≤ maxLen ∧ RowAt w g e n f := by
  rcases h.row with ⟨_, h0⟩ | ⟨g, e, cap, cur, rfl, h2, h3, h4, h5, h6, h7⟩
  · omega
  · exact ⟨g, e, cap, rfl, h2, h4, h5, cur, (0, 0), h3, .inl rfl, by omega, h7⟩
set_option maxHeartbeats 8000000 in
theorem gtogetherAt (g ze o n c len : Nat) (f : Nat → BitVec 8) (a : Option Addr) (m c2 : Nat) (p : Nat → BitVec 8) (w : World) (h : RowAt w g ze len f) (ho : o + n ≤ len) (hp : BytesIn w a m p) (hnm : n ≤ m) (hne : ∀ x, a = some x → x.block ≠ g) :
    Calls Tryd.prog 32 #[.slice (some ⟨g, ze + o, none⟩) n c, .slice a m c2] w fun e w' => e = .returned (.tuple #[]) ∧ RowAt w' g ze len (togF f p o n) ∧ (∀ B, B ≤ g → Below B w w') ∧ ∀ k, k ≠ g → w'.heap[k]? = w.heap[k]? := by
  have H := Lib.hid h
  have HP := Lib.hid hp
  have HN := Lib.hid hne
  clear h hp hne
  go_enter Tryd.func32, Tryd.ntmps32
  go_wp2_with fail
  go_loopw [4, 7] (fun _ s7 wr => ∃ k : Nat, k ≤ n ∧ s7 = .int .i64 (k : Int) ∧ RowAt wr g ze len (togF f p o k) ∧ (∀ B, B ≤ g → Below B w wr) ∧ ∀ k, k ≠ g → wr.heap[k]? = w.heap[k]?) (fun _ s7 _ => n - (intOf s7).toNat)
  case atStart => exact ⟨0, by omega, rfl, H.out.congr (fun i hi => by unfold togF; rw [if_neg (by omega)]), fun B _ => Below.refl _ _, fun _ _ => rfl⟩
  case round =>
    obtain ⟨k, hk, rfl, rz, bel, oth⟩ := hrel
    have BEL := Lib.hid bel
    have RZ := Lib.hid rz
    have OT := Lib.hid oth
    clear bel rz oth
    by_cases hlt : k < n
    · have hlI : (k : Int) < (n : Int) := by omega
      have hmI : (k : Int) < (m : Int) := by omega
      obtain ⟨_, h0 | ⟨b, ob, rfl, hb, hc⟩⟩ := HP.out
      · omega
      have hbg : b ≠ g := HN.out _ rfl
      have k1 : wr.cell? ⟨b, ob + k, none⟩ = some (.int .u8 (n8 (p k))) := by
        have h2 := hc k (by omega)
        unfold World.cell? at h2 ⊢
        simp only [OT.out b hbg]
        exact h2
      have c1 := RZ.out.at (o + k) (by omega)
      have f1 := RZ.out.free (o + k) (by omega)
      have hx : togF f p o k (o + k) = f (o + k) := by unfold togF; rw [if_neg (by omega)]
      rw [hx] at c1
      rw [← Nat.add_assoc] at c1 f1
      clear hc
      go_upto_region 3 with (fail)
      go_region
      go_wp2_with fail
      have hml := HP.out.1
      have hw : wrap64 ((k : Int) + 1) = ((k + 1 : Nat) : Int) := by unfold maxLen at hml; unfold wrap64; omega
      rw [hw]
      refine ⟨⟨k + 1, by omega, rfl, ?_, fun B hB => ((BEL.out B hB).setCell hB _).drew, fun j hj => (heap_setCell_other _ _ _ _ hj).trans (OT.out j hj)⟩, (by simp [intOf] <;> omega)⟩
      rw [Nat.add_assoc]
      obtain ⟨cur, fr, r⟩ := (RZ.out.set (o + k) (f (o + k) ^^^ p k)).congr (f' := togF f p o (k + 1)) (fun i hi => by
        unfold updb togF
        by_cases hij : i = o + k
        · subst hij
          rw [if_pos rfl, if_pos (by omega), show o + k - o = k by omega]
        · rw [if_neg hij]
          by_cases h2 : o ≤ i ∧ i < o + k
          · rw [if_pos h2, if_pos (by omega)]
          · rw [if_neg h2, if_neg (by omega)])
      exact ⟨cur, fr, r⟩
    · obtain rfl : k = n := by omega
      have hN : ¬ ((k : Int) < (k : Int)) := by omega
      go_wp2_with fail
      go_end0
      exact ⟨rfl, RZ.out, BEL.out, OT.out⟩
set_option maxHeartbeats 4000000 in
theorem seal_bad (K I M : ByteArray) (a a2 : Option Addr) (m c n c2 : Nat) (S N r : Int) (w : World) (hr : r ≠ 0)
    (SL : ∀ w', Below w.heap.size w w' → Calls Tryd.prog 25 #[.agg (kysC K I M), .slice a m c, .int .i64 S, .int .i64 N, .slice a2 n c2] w' fun e w2 => e = .returned (.int .i64 r) ∧ Below w'.heap.size w' w2) :
    Calls Tryd.prog 11 #[.agg (kysC K I M), .slice a m c, .int .i64 S, .int .i64 N, .slice a2 n c2] w fun e w' => e = .returned (.tuple #[.slice none 0 0, .int .i64 r]) ∧ Below w.heap.size w w' := by
  have R0 : (w.alloc (.cells (kysC K I M) 34)).heap[w.heap.size]? = some (.cells (kysC K I M) 34 (0, 0)) := heap_alloc_last _ _
  have hb1 : Below w.heap.size w (w.alloc (.cells (kysC K I M) 34)) := (Below.refl w.heap.size w).alloc (Nat.le_refl _) _
  have HB := Lib.hid hb1
  have HS := Lib.hid (SL _ hb1)
  obtain ⟨c0, c1, c2⟩ := kys_cells R0
  have hrb : (r != 0) = true := bne_iff_ne.2 hr
  clear hb1 R0 SL hr
  unfold kysC at *
  go_enter Tryd.func11, Tryd.ntmps11
  go_wp2_with (go_at_call 25; refine HS.out.mono ?_; rintro e w1 ⟨rfl, hb⟩; have B1 := Lib.hid (HB.out.trans (hb.mono HB.out.size)); clear hb)
  go_ret2
  exact ⟨rfl, B1.out⟩
set_option maxHeartbeats 16000000 in
theorem seal_ok (k iv mk f xs : Nat → BitVec 8) (N : Int) (h0 : 0 ≤ N) (h1 : N ≤ 4611686018427387903) (s m n : Nat) (hs1 : 1 ≤ s) (hs4 : s ≤ 4) (hm : m ≤ 4000) (hsm : s + 1 ≤ m) (hn4 : ¬ n + s < 4) (hn5 : ¬ 65000 < n) (a a2 : Option Addr) (c c2 : Nat) (hc : m ≤ c) (hcm : c ≤ maxLen) (w : World) (hf : BytesIn w a m f) (hx : BytesIn w a2 n xs)
    (SL : ∀ w', Below w.heap.size w w' → Calls Tryd.prog 25 #[.agg (kysC (strOf k 16) (strOf iv 12) (strOf mk 16)), .slice a m c, .int .i64 (s : Int), .int .i64 N, .slice a2 n c2] w' fun e w2 => e = .returned (.int .i64 0) ∧ Below w'.heap.size w' w2) :
    Calls Tryd.prog 11 #[.agg (kysC (strOf k 16) (strOf iv 12) (strOf mk 16)), .slice a m c, .int .i64 (s : Int), .int .i64 N, .slice a2 n c2] w
      fun e w' => ∃ g z c', e = .returned (.tuple #[.slice (some ⟨g, z, none⟩) (m + (n + 16)) c', .int .i64 0]) ∧ w.heap.size ≤ g ∧ m + (n + 16) ≤ c' ∧ c' ≤ maxLen ∧ RowAt w' g z (m + (n + 16)) (packF k iv mk f xs N m s n) ∧ Below w.heap.size w w' := by
  have R0 : (w.alloc (.cells (kysC (strOf k 16) (strOf iv 12) (strOf mk 16)) 34)).heap[w.heap.size]? = some (.cells (kysC (strOf k 16) (strOf iv 12) (strOf mk 16)) 34 (0, 0)) := heap_alloc_last _ _
  have hb1 : Below w.heap.size w (w.alloc (.cells (kysC (strOf k 16) (strOf iv 12) (strOf mk 16)) 34)) := (Below.refl w.heap.size w).alloc (Nat.le_refl _) _
  have HB := Lib.hid hb1
  have HL := Lib.hid (show w.heap.size < (w.alloc (.cells (kysC (strOf k 16) (strOf iv 12) (strOf mk 16)) 34)).heap.size by simp)
  have CC := Lib.hid (kys_cells R0)
  have HS := Lib.hid (SL _ hb1)
  have HF := Lib.hid hf
  have HX := Lib.hid hx
  have CV := Lib.hid (fun w' : World => conv_ownZ k 16 (by omega) w' w'.heap.size (Nat.le_refl _))
  have NO := Lib.hid (fun w' => nonce_any iv N h0 h1 w')
  have MS := Lib.hid (fun (a : Option Addr) (c' : Nat) (hc' : n + 16 + s ≤ c') (w' : World) (h : BytesIn w' a (n + 16 + s) (fun i => joinb f m (sealF (sched k) (hOf (sched k)) (nonTo iv N 8) f m xs n) (m - s + i))) => mask_any mk (fun i => joinb f m (sealF (sched k) (hOf (sched k)) (nonTo iv N 8) f m xs n) (m - s + i)) (strOf k 16) (strOf iv 12) a (n + 16 + s) c' (by omega) hc' w' h)
  clear hf hx hb1 R0 SL
  unfold packF hidP
  unfold kysC at *
  generalize strOf k 16 = SK at *
  generalize strOf iv 12 = SI at *
  generalize strOf mk 16 = SM at *
  obtain ⟨c0, c1, c2⟩ := CC.out
  go_enter Tryd.func11, Tryd.ntmps11
  go_upto_region 4 with (go_at_call 25; refine HS.out.mono ?_; rintro e w1 ⟨rfl, hb⟩; have B1 := Lib.hid (HB.out.trans (hb.mono HB.out.size)); have L1 := Lib.hid (Nat.lt_of_lt_of_le HL.out hb.size); have c1' := Lib.hid (fun (i : Nat) => hb.cell (p := ⟨w.heap.size, i, none⟩) HL.out); clear hb)
  have K1 := Lib.hid (show w1.cell? ⟨w.heap.size, 0, none⟩ = some (.string SK) ∧ w1.cell? ⟨w.heap.size, 1, none⟩ = some (.string SI) ∧ w1.cell? ⟨w.heap.size, 2, none⟩ = some (.string SM) from ⟨(c1'.out 0).trans CC.out.1, (c1'.out 1).trans CC.out.2.1, (c1'.out 2).trans CC.out.2.2⟩)
  clear c1' CC c0 c1 c2 HB HL HS
  obtain ⟨d0, d1, d2⟩ := K1.out
  obtain ⟨v2, w2, hcv, o2, b2⟩ := CV.out w1
  obtain ⟨g2, cg2, rfl, hg2, hcg2, hcm2, rz2⟩ := o2.rowZ (by omega)
  have N2 := Lib.hid (gnew_ok k g2 0 cg2 w2 (fun i hi => by rw [Nat.zero_add]; exact rz2.at i hi) rz2.lt)
  have B2 := Lib.hid (Below.trans B1.out (b2.mono B1.out.size))
  have b2' := Lib.hid b2
  clear o2 rz2 b2 CV
  go_upto_region 5 with (go_at_call 26; refine N2.out.mono ?_; rintro e w3 ⟨p, q, rfl, hp, hb, bx⟩; have b3 := Lib.hid (b2'.out.trans (hb.mono b2'.out.size)); have B3 := Lib.hid (B2.out.trans (hb.mono B2.out.size)); have BX := Lib.hid bx; clear hp hb bx)
  clear hcv d0 d1 d2 N2 b2'
  have e1 := (b3.out.cell (p := ⟨w.heap.size, 1, none⟩) L1.out).trans K1.out.2.1
  have NO3 := Lib.hid (NO.out w3)
  clear NO
  go_upto_region 8 with (first
    | (go_at_call 28; refine NO3.out.mono ?_; rintro e w4 ⟨g4, c4, rfl, hg4, hc4, hcm4, rz4, hb4⟩; have RZ4 := Lib.hid rz4; have B4' := Lib.hid hb4; clear rz4 hb4)
    | (go_at_call 27; refine (gseal_ok p q (sched k) (hOf (sched k)) (nonTo iv N 8) f xs g4 0 c4 a a2 m c n c2 w4 (BX.out.later B4'.out) (fun i hi => by rw [Nat.zero_add]; exact RZ4.out.at i hi) RZ4.out.lt (bytesIn_later HF.out (B3.out.trans (B4'.out.mono B3.out.size))) hc hcm (bytesIn_later HX.out (B3.out.trans (B4'.out.mono B3.out.size))) (by omega)).mono ?_; rintro e w5 ⟨v5, rfl, o5, hb5⟩; have O5 := Lib.hid o5; have B5' := Lib.hid (B4'.out.trans (hb5.mono B4'.out.size)); clear o5 hb5))
  clear NO3 e1 RZ4 B4' hg4 hc4 hcm4
  obtain ⟨a5, c5, rfl, hc5, hm5, in5⟩ := O5.out.asBytes
  have B5 := Lib.hid (B3.out.trans (B5'.out.mono B3.out.size))
  have b5 := Lib.hid (b3.out.trans (B5'.out.mono b3.out.size))
  clear O5 B5' B3 b3 BX
  have hal : Below w5.heap.size w5 (w5.alloc (.cells #[.slice a m c, .slice a5 (n + 16) c5] 31)) := (Below.refl _ _).alloc (Nat.le_refl _) _
  have R6 : (w5.alloc (.cells #[.slice a m c, .slice a5 (n + 16) c5] 31)).heap[w5.heap.size]? = some (.cells #[.slice a m c, .slice a5 (n + 16) c5] 31 (0, 0)) := heap_alloc_last _ _
  have hf6 := bytesIn_later HF.out (B5.out.trans (hal.mono B5.out.size))
  have hb6 := bytesIn_later in5 hal
  have e2 : lenTo (fun k => if k = 0 then m else n + 16) 2 = m + (n + 16) := by show 0 + m + (n + 16) = _; omega
  have CAT := concat_any w5.heap.size 0 2 2 (fun k => if k = 0 then a else a5) (fun k => if k = 0 then m else n + 16) (fun k => if k = 0 then c else c5) (fun j => if j = 0 then f else (sealF (sched k) (hOf (sched k)) (nonTo iv N 8) f m xs n)) (w5.alloc (.cells #[.slice a m c, .slice a5 (n + 16) c5] 31)) (by omega)
    (by rw [e2]; omega) (by rw [e2]; omega) (fun k hk => by
      rw [Nat.zero_add, cell_of_row _ _ _ _ _ _ R6]
      rcases (show k = 0 ∨ k = 1 by omega) with rfl | rfl <;> rfl) (by simp) (fun k hk => by
      rcases (show k = 0 ∨ k = 1 by omega) with rfl | rfl
      · exact hf6
      · exact hb6)
  rw [e2] at CAT
  have CAT2 := Lib.hid CAT
  have HAL := Lib.hid hal
  clear CAT R6 hf6 hb6 hal in5
  go_upto_region 11 with (go_at_call 29; refine CAT2.out.mono ?_; rintro e w7 ⟨v7, rfl, o7, hb7⟩; have b7 := Lib.hid (HAL.out.trans (hb7.mono HAL.out.size)); have O7 := Lib.hid o7; clear o7 hb7)
  clear CAT2
  have O7' := (O7.out.congr (g := joinb f m (sealF (sched k) (hOf (sched k)) (nonTo iv N 8) f m xs n)) (fun i hi => by
      show joinb (joinb (fun _ => 0#8) 0 f) (0 + m) (sealF (sched k) (hOf (sched k)) (nonTo iv N 8) f m xs n) i = joinb f m (sealF (sched k) (hOf (sched k)) (nonTo iv N 8) f m xs n) i
      unfold joinb
      simp))
  obtain ⟨g7, z7, c7, rfl, hg7, hc7, hcm7, ra7⟩ := O7'.rowAt (by omega)
  have HG := Lib.hid (show w.heap.size ≤ g7 from Nat.le_trans (Nat.le_trans B5.out.size HAL.out.size) hg7)
  obtain ⟨J, hJ⟩ : ∃ J, joinb f m (sealF (sched k) (hOf (sched k)) (nonTo iv N 8) f m xs n) = J := ⟨_, rfl⟩
  rw [hJ] at ra7 MS
  have HJ := Lib.hid hJ
  have RA := Lib.hid ra7
  have B7 := Lib.hid (B5.out.trans (b7.out.mono B5.out.size))
  have b57 := b5.out.trans (b7.out.mono b5.out.size)
  have L7 := Lib.hid (Nat.lt_of_lt_of_le L1.out b57.size)
  have C7 := Lib.hid (show w7.cell? ⟨w.heap.size, 0, none⟩ = some (.string SK) ∧ w7.cell? ⟨w.heap.size, 1, none⟩ = some (.string SI) ∧ w7.cell? ⟨w.heap.size, 2, none⟩ = some (.string SM) from
    ⟨(b57.cell (p := ⟨w.heap.size, 0, none⟩) L1.out).trans K1.out.1, (b57.cell (p := ⟨w.heap.size, 1, none⟩) L1.out).trans K1.out.2.1, (b57.cell (p := ⟨w.heap.size, 2, none⟩) L1.out).trans K1.out.2.2⟩)
  clear O7 O7' ra7 hJ B5 b5 b7 b57 K1 L1 HAL HF HX
  go_upto_region 12 with (fail)
  have e3 : m + (n + 16) - (m - s) = n + 16 + s := by omega
  have F64 := Lib.hid (fun w' => run_from_at w' g7 z7 (m - s) (m + (n + 16)) c7 ((m : Int) - (s : Int)) (by omega) (by omega) hc7)
  rw [e3] at F64
  have hwm : IntKind.wrap .i64 ((m : Int) - (s : Int)) = (m : Int) - (s : Int) := by simp only [IntKind.wrap, IntKind.bits, IntKind.signed]; simp; omega
  refine region_anyM mixedOrders ?_
  refine anyM_take (i := 0) (oi := ⟨some 61, _, _, _, _, _⟩) (v := .agg #[.string SK, .string SI, .string SM]) rfl (by kernel_rfl) (by kernel_rfl) (by kernel_rfl) (fun _ _ _ h => h) (.inl ⟨by rfl, fun w2 hw2 => ?_⟩) ?_
  · have hc0 := ((show Below w7.drew.heap.size w7.drew w2 from hw2).cell (p := ⟨w.heap.size, 0, none⟩) L7.out).trans C7.out.1
    have hc1 := ((show Below w7.drew.heap.size w7.drew w2 from hw2).cell (p := ⟨w.heap.size, 1, none⟩) L7.out).trans C7.out.2.1
    have hc2 := ((show Below w7.drew.heap.size w7.drew w2 from hw2).cell (p := ⟨w.heap.size, 2, none⟩) L7.out).trans C7.out.2.2
    clear hw2
    go_simp
  simp only [Act.put, List.setIfInBounds_toArray, List.set_cons_succ, List.set_cons_zero]
  refine anyM_take (i := 1) (oi := ⟨some 62, _, _, _, _, _⟩) (v := .slice (some ⟨g7, z7, none⟩) (m + (n + 16)) c7) rfl (by kernel_rfl) (by kernel_rfl) (by kernel_rfl) (fun _ _ _ h => h) (.inl ⟨by rfl, fun w2 hw2 => ?_⟩) ?_
  · clear hw2
    go_simp
  simp only [Act.put, List.setIfInBounds_toArray, List.set_cons_succ, List.set_cons_zero]
  refine anyM_take (i := 2) (oi := ⟨some 63, _, _, _, _, _⟩) (v := .int .i64 ((m : Int) - (s : Int))) rfl (by kernel_rfl) (by kernel_rfl) (by kernel_rfl) (fun _ _ _ h => h) (.inl ⟨by rfl, fun w2 hw2 => ?_⟩) ?_
  · clear hw2
    go_simp
  simp only [Act.put, List.setIfInBounds_toArray, List.set_cons_succ, List.set_cons_zero]
  refine anyM_take (i := 3) (oi := ⟨some 64, _, _, _, _, _⟩) (v := .slice (some ⟨g7, z7 + (m - s), none⟩) (n + 16 + s) (c7 - (m - s))) rfl (by kernel_rfl) (by kernel_rfl) (by kernel_rfl) (fun _ _ _ h => h) (.inl ⟨by rfl, fun w2 hw2 => ?_⟩) ?_
  · have hf := F64.out
    clear hw2
    go_simp
  simp only [Act.put, List.setIfInBounds_toArray, List.set_cons_succ, List.set_cons_zero]
  refine anyM_call (i := 4) (o := ⟨some 65, _, _, _, _, _⟩) 30 #[.agg #[.string SK, .string SI, .string SM], .slice (some ⟨g7, z7 + (m - s), none⟩) (n + 16 + s) (c7 - (m - s))] (by kernel_rfl) rfl (by rfl) (fun w2 => by go_simp) (fun w8 hw8 => ?_)
  have b8 : Below w7.drew.heap.size w7.drew w8 := hw8
  have RA8 := Lib.hid (RowAt.later (show RowAt w7.drew g7 z7 (m + (n + 16)) J from RA.out) b8)
  refine (MS.out (some ⟨g7, z7 + (m - s), none⟩) (c7 - (m - s)) (by omega) w8 ⟨by unfold maxLen; omega, .inr ⟨g7, z7 + (m - s), rfl, RA8.out.lt, fun i hi => by rw [Nat.add_assoc]; exact RA8.out.at (m - s + i) (by omega)⟩⟩).mono ?_
  rintro e w9 ⟨r, rfl, hr9, hm9, hb9⟩
  refine ⟨_, rfl, hb9, ?_⟩
  have hrg : g7 < r := Nat.lt_of_lt_of_le RA8.out.lt hr9
  have RA9 := Lib.hid (RA8.out.later hb9)
  have M9 := Lib.hid hm9
  have B9 := Lib.hid ((ext_below hw8 B7.out.drew B7.out.drew.size).trans (hb9.mono (ext_below hw8 B7.out.drew B7.out.drew.size).size))
  obtain ⟨M, hM⟩ : ∃ M, mskF mk (fun i => J (m - s + i)) = M := ⟨_, rfl⟩
  rw [hM] at M9
  have HM := Lib.hid hM
  clear hw8 b8 RA8 hm9 hb9 hM RA MS C7 L7 F64 hr9
  simp only [Act.put, List.setIfInBounds_toArray, List.set_cons_succ, List.set_cons_zero]
  refine anyM_take (i := 5) (oi := ⟨some 60, _, _, _, _, _⟩) (v := .tuple #[.slice (some ⟨r, 0, none⟩) 16 16, .int .i64 0]) rfl (by kernel_rfl) (by kernel_rfl) (by kernel_rfl) (fun _ _ _ h => h) (.inl ⟨by rfl, fun w2 hw2 => ?_⟩) ?_
  · clear hw2
    go_simp
  simp only [Act.put, List.setIfInBounds_toArray, List.set_cons_succ, List.set_cons_zero]
  refine anyM_take (i := 6) (oi := ⟨some 66, _, _, _, _, _⟩) (v := .slice (some ⟨r, 0, none⟩) 16 16) rfl (by kernel_rfl) (by kernel_rfl) (by kernel_rfl) (fun _ _ _ h => h) (.inl ⟨by rfl, fun w2 hw2 => ?_⟩) ?_
  · clear hw2
    go_simp
  simp only [Act.put, List.setIfInBounds_toArray, List.set_cons_succ, List.set_cons_zero]
  refine anyM_take (i := 7) (oi := ⟨some 67, _, _, _, _, _⟩) (v := .int .i64 0) rfl (by kernel_rfl) (by kernel_rfl) (by kernel_rfl) (fun _ _ _ h => h) (.inl ⟨by rfl, fun w2 hw2 => ?_⟩) ?_
  · clear hw2
    go_simp
  simp only [Act.put, List.setIfInBounds_toArray, List.set_cons_succ, List.set_cons_zero]
  refine anyM_take (i := 8) (oi := ⟨some 18, _, _, _, _, _⟩) (v := .slice (some ⟨r, 0, none⟩) 16 16) rfl (by kernel_rfl) (by kernel_rfl) (by kernel_rfl) (fun _ _ _ h => h) (.inl ⟨by rfl, fun w2 hw2 => ?_⟩) ?_
  · clear hw2
    go_simp
  simp only [Act.put, List.setIfInBounds_toArray, List.set_cons_succ, List.set_cons_zero]
  refine anyM_take (i := 9) (oi := ⟨some 14, _, _, _, _, _⟩) (v := .int .i64 0) rfl (by kernel_rfl) (by kernel_rfl) (by kernel_rfl) (fun _ _ _ h => h) (.inl ⟨by rfl, fun w2 hw2 => ?_⟩) ?_
  · clear hw2
    go_simp
  simp only [Act.put, List.setIfInBounds_toArray, List.set_cons_succ, List.set_cons_zero]
  refine anyM_done (by kernel_rfl) (fun w10 hw10 => ?_)
  have b10 : Below w9.heap.size w9 w10 := hw10
  have RB := Lib.hid (RA9.out.later b10)
  have MB := Lib.hid (bytesIn_later M9.out b10)
  have B10 := Lib.hid (B9.out.trans (b10.mono B9.out.size))
  clear hw10 b10 RA9 M9 B9
  go_upto_region 15 with (fail)
  have hr10 := RB.out.lt
  have hm0 := (MB.out).2
  have CR := Lib.hid (show (∀ i, i < 16 → w10.cell? ⟨r, i, none⟩ = some (.int .u8 (n8 (M i)))) ∧ r < w10.heap.size by
    rcases hm0 with h | ⟨b', o', e', hlt', hc'⟩
    · omega
    · injection e' with e'
      injection e' with e1 e2
      subst e1 e2
      exact ⟨fun i hi => by have := hc' i hi; rwa [Nat.zero_add] at this, hlt'⟩)
  clear hm0 MB
  have hLI : (0 : Int) < (m : Int) + ((n : Int) + 16) := by omega
  refine region_class1 9 (fun w' => Below w10.heap.size w10 w') mixedOrders (by kernel_rfl) (Below.refl _ _).drew rfl ?_
  refine wpQuiet_take (by rfl) (fun K hK => ⟨.slice (some ⟨g7, z7, none⟩) (m + (n + 16)) c7, fun w2' hw2 => ?_, hK _ ?_⟩)
  · clear hw2; go_simp
  clear hK K
  simp only [Act.put, List.setIfInBounds_toArray, List.set_cons_succ, List.set_cons_zero]
  refine wpQuiet_take (by rfl) (fun K hK => ⟨.slice (some ⟨g7, z7, none⟩) (m + (n + 16)) c7, fun w2' hw2 => ?_, hK _ ?_⟩)
  · clear hw2; go_simp
  clear hK K
  simp only [Act.put, List.setIfInBounds_toArray, List.set_cons_succ, List.set_cons_zero]
  refine wpQuiet_take (by rfl) (fun K hK => ⟨.pointer (some ⟨g7, z7, none⟩), fun w2' hw2 => ?_, hK _ ?_⟩)
  · clear hw2; go_simp
  clear hK K
  simp only [Act.put, List.setIfInBounds_toArray, List.set_cons_succ, List.set_cons_zero]
  refine wpQuiet_take (by rfl) (fun K hK => ⟨.int .u8 (n8 (J 0)), fun w2' hw2 => ?_, hK _ ?_⟩)
  · have hc := (RB.out.later hw2).at 0 (by omega)
    rw [Nat.add_zero] at hc
    clear hw2
    go_simp
  clear hK K
  simp only [Act.put, List.setIfInBounds_toArray, List.set_cons_succ, List.set_cons_zero]
  refine wpQuiet_take (by rfl) (fun K hK => ⟨.slice (some ⟨r, 0, none⟩) 16 16, fun w2' hw2 => ?_, hK _ ?_⟩)
  · clear hw2; go_simp
  clear hK K
  simp only [Act.put, List.setIfInBounds_toArray, List.set_cons_succ, List.set_cons_zero]
  refine wpQuiet_take (by rfl) (fun K hK => ⟨.pointer (some ⟨r, 0, none⟩), fun w2' hw2 => ?_, hK _ ?_⟩)
  · clear hw2; go_simp
  clear hK K
  simp only [Act.put, List.setIfInBounds_toArray, List.set_cons_succ, List.set_cons_zero]
  refine wpQuiet_take (by rfl) (fun K hK => ⟨.int .u8 (n8 (M 0)), fun w2' hw2 => ?_, hK _ ?_⟩)
  · have hc := (hw2.cell (p := ⟨r, 0, none⟩) CR.out.2).trans (CR.out.1 0 (by omega))
    clear hw2
    go_simp
  clear hK K
  simp only [Act.put, List.setIfInBounds_toArray, List.set_cons_succ, List.set_cons_zero]
  refine wpQuiet_take (by rfl) (fun K hK => ⟨.int .u8 (n8 (veilF (J 0) (M 0))), fun w2' hw2 => ?_, hK _ ?_⟩)
  · go_simp
    go_at_call 31
    refine (veiled_any (J 0) (M 0) w2').mono ?_
    rintro e w5 ⟨rfl, rfl⟩
    exact ⟨rfl, hw2⟩
  clear hK K
  simp only [Act.put, List.setIfInBounds_toArray, List.set_cons_succ, List.set_cons_zero]
  refine wpQuiet_take (by rfl) (fun K hK => ⟨.pointer (some ⟨g7, z7, none⟩), fun w2' hw2 => ?_, hK _ ?_⟩)
  · clear hw2; go_simp
  clear hK K
  simp only [Act.put, List.setIfInBounds_toArray, List.set_cons_succ, List.set_cons_zero]
  refine wpQuiet_take0 ?_
  intro w11 hb11
  have RC := Lib.hid (RB.out.later hb11)
  have cz := RC.out.at 0 (by omega)
  have fz := RC.out.free 0 (by omega)
  rw [Nat.add_zero] at cz fz
  have RD := (RC.out.set 0 (veilF (J 0) (M 0)))
  rw [Nat.add_zero] at RD
  have CR11 := (fun i hi => (hb11.cell (p := ⟨r, i, none⟩) CR.out.2).trans (CR.out.1 i hi) : ∀ i, i < 16 → w11.cell? ⟨r, i, none⟩ = some (.int .u8 (n8 (M i))))
  have hh : (w11.setCell ⟨g7, z7, none⟩ (.int .u8 (n8 (veilF (J 0) (M 0))))).heap[r]? = w11.heap[r]? := heap_setCell_other _ _ _ _ (show r ≠ g7 by omega)
  have CRD := Lib.hid (show (∀ i, i < 16 → (w11.setCell ⟨g7, z7, none⟩ (.int .u8 (n8 (veilF (J 0) (M 0))))).cell? ⟨r, i, none⟩ = some (.int .u8 (n8 (M i)))) ∧ r < (w11.setCell ⟨g7, z7, none⟩ (.int .u8 (n8 (veilF (J 0) (M 0))))).heap.size from
    ⟨fun i hi => by
      have h2 := CR11 i hi
      unfold World.cell? at h2 ⊢
      simp only [hh]
      exact h2, by
      have h3 := Nat.lt_of_lt_of_le CR.out.2 hb11.size
      simpa using h3⟩)
  have hg0 : w.heap.size ≤ g7 := by have := HG.out; omega
  have BD := Lib.hid ((B10.out.trans (hb11.mono B10.out.size)).setCell hg0 (p := ⟨g7, z7, none⟩) (.int .u8 (n8 (veilF (J 0) (M 0)))))
  have RDD := Lib.hid RD
  clear RD CR11 CR RC RB hb11 B10 hh
  go_upto_region 16 with (fail)
  generalize w11.setCell _ _ = wd at *
  have hLe : m - (m - s) = s := by omega
  have F84 := Lib.hid (fun w' => run_mid_at w' g7 z7 (m - s) m (m + (n + 16)) c7 ((m : Int) - (s : Int)) (m : Int) (by omega) rfl (by omega) (by omega) hc7)
  rw [hLe] at F84
  have F86 := Lib.hid (fun w' => run_from_at w' r 0 1 16 16 1 rfl (by omega) (by omega))
  rw [Nat.zero_add] at F86
  refine region_class1 7 (fun w' => Below wd.heap.size wd w') mixedOrders (by kernel_rfl) (Below.refl _ _).drew rfl ?_
  refine wpQuiet_take (by rfl) (fun K hK => ⟨.slice (some ⟨g7, z7, none⟩) (m + (n + 16)) c7, fun w2' hw2 => ?_, hK _ ?_⟩)
  · clear hw2; go_simp
  clear hK K
  simp only [Act.put, List.setIfInBounds_toArray, List.set_cons_succ, List.set_cons_zero]
  refine wpQuiet_take (by rfl) (fun K hK => ⟨.int .i64 ((m : Int) - (s : Int)), fun w2' hw2 => ?_, hK _ ?_⟩)
  · clear hw2; go_simp
  clear hK K
  simp only [Act.put, List.setIfInBounds_toArray, List.set_cons_succ, List.set_cons_zero]
  refine wpQuiet_take (by rfl) (fun K hK => ⟨.slice a m c, fun w2' hw2 => ?_, hK _ ?_⟩)
  · clear hw2; go_simp
  clear hK K
  simp only [Act.put, List.setIfInBounds_toArray, List.set_cons_succ, List.set_cons_zero]
  refine wpQuiet_take (by rfl) (fun K hK => ⟨.int .i64 (m : Int), fun w2' hw2 => ?_, hK _ ?_⟩)
  · clear hw2; go_simp
  clear hK K
  simp only [Act.put, List.setIfInBounds_toArray, List.set_cons_succ, List.set_cons_zero]
  refine wpQuiet_take (by rfl) (fun K hK => ⟨.slice (some ⟨g7, z7 + (m - s), none⟩) s (c7 - (m - s)), fun w2' hw2 => ?_, hK _ ?_⟩)
  · have hc := F84.out
    clear hw2
    go_simp
  clear hK K
  simp only [Act.put, List.setIfInBounds_toArray, List.set_cons_succ, List.set_cons_zero]
  refine wpQuiet_take (by rfl) (fun K hK => ⟨.slice (some ⟨r, 0, none⟩) 16 16, fun w2' hw2 => ?_, hK _ ?_⟩)
  · clear hw2; go_simp
  clear hK K
  simp only [Act.put, List.setIfInBounds_toArray, List.set_cons_succ, List.set_cons_zero]
  refine wpQuiet_take (by rfl) (fun K hK => ⟨.slice (some ⟨r, 1, none⟩) 15 15, fun w2' hw2 => ?_, hK _ ?_⟩)
  · have hc := F86.out
    clear hw2
    go_simp
  clear hK K
  simp only [Act.put, List.setIfInBounds_toArray, List.set_cons_succ, List.set_cons_zero]
  refine wpQuiet_take0 ?_
  intro w12 hb12
  have TG := Lib.hid (gtogetherAt g7 z7 (m - s) s (c7 - (m - s)) (m + (n + 16)) (updb J 0 (veilF (J 0) (M 0))) (some ⟨r, 1, none⟩) 15 15 (fun i => M (1 + i)) w12 (RDD.out.later hb12) (by omega)
    ⟨by unfold maxLen; omega, .inr ⟨r, 1, rfl, Nat.lt_of_lt_of_le CRD.out.2 hb12.size, fun i hi => (hb12.cell (p := ⟨r, 1 + i, none⟩) CRD.out.2).trans (CRD.out.1 (1 + i) (by omega))⟩⟩ (by omega) (fun x hx => by injection hx with hx; subst hx; show r ≠ g7; omega))
  have B12 := Lib.hid (BD.out.trans (hb12.mono BD.out.size))
  clear hb12 RDD CRD BD F84 F86
  go_upto_region 17 with (go_at_call 32; refine TG.out.mono ?_; rintro e w13 ⟨rfl, ra13, hb13, _⟩; have R13 := Lib.hid ra13; have B13 := Lib.hid (B12.out.trans (hb13 w.heap.size hg0)); clear ra13 hb13)
  go_wp2_with fail
  go_ret2
  have hj := HJ.out
  have hM2 := HM.out
  subst hj
  subst hM2
  exact ⟨g7, z7, c7, rfl, hg0, hc7, hcm7, R13.out, B13.out⟩
end Go.Proofs.YtjbpjoondmcnlabDoor
