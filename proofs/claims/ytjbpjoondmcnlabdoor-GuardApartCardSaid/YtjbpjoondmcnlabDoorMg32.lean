/-
  TEXTS PUT TOGETHER: GcmS, GcmV.
-/
import Derived.Test.YtjbpjoondmcnlabDoorGcmQ
set_option maxRecDepth 100000
/-
  THE DOCUMENT'S ANSWER FOR gcm: Xor, whole, count, Sum.
-/
namespace Go.Proofs.YtjbpjoondmcnlabDoor
open Go Go.RowKit Go.BigFrame
set_option maxRecDepth 100000
set_option linter.unusedSimpArgs false
theorem conv_ownB (v : Value) (n B : Nat) (f : Nat → BitVec 8) (w : World) (h : Own B v n f w) : (convert 31 9 v).run Tryd.prog w = .ok (.string (strOf f n)) w := by
  rcases h.row.2 with ⟨rfl, rfl⟩ | hr
  · simp [convert, Sem.run_bind, run_underlying under_bytes, run_underlying (show Tryd.prog.underlying 9 = some .string by kernel_rfl)]
    rfl
  · by_cases h0 : n = 0
    · subst h0
      obtain ⟨g, cap, cur, rfl, _⟩ := hr
      exact conv_str _ g 0 0 cap w (fun j hj => by omega)
    · obtain ⟨g, cap, rfl, _, _, _, _, hc⟩ := own_slice (by omega) h.row
      exact conv_str _ g 0 n cap w (fun j hj => by rw [Nat.zero_add]; exact hc j hj)
set_option maxHeartbeats 8000000 in
theorem xorR_any (f g : Nat → BitVec 8) (n m : Nat) (w : World) (hnm : n ≤ m) (hn : n ≤ 100000000000000) :
    Calls Tryd.prog 61 #[.string (strOf f n), .string (strOf g m)] w fun e w' => e = .returned (.string (strOf (fun i => f i ^^^ g i) n)) ∧ Below w.heap.size w w' := by
  have hF := strOf_size f n
  have HX := Lib.hid (run_at_str f n)
  have HY := Lib.hid (run_at_str g m)
  generalize strOf f n = F at *
  generalize strOf g m = G at *
  go_enter Tryd.func61, Tryd.ntmps61
  go_wp2_with fail
  go_loopw [5, 6] (fun v5 v6 wr => ∃ i : Nat, i ≤ n ∧ v6 = .int .i64 (i : Int) ∧ Own w.heap.size v5 i (fun j => f j ^^^ g j) wr ∧ Below w.heap.size w wr)
    (fun _ v6 _ => n - (intOf v6).toNat)
  case atStart => exact ⟨0, by omega, rfl, Own.nil _ _ _ (Nat.le_refl _), Below.refl _ _⟩
  case round =>
    obtain ⟨i, hi, rfl, own, hb⟩ := hrel
    have OW := Lib.hid own
    have HB := Lib.hid hb
    clear own hb
    by_cases hin : i < n
    · have hinI : (i : Int) < (n : Int) := by omega
      have x1 := HX.out i hin
      have x2 := HY.out i (by omega)
      go_upto_region 5 with (fail)
      have O1 := Lib.hid ((OW.out.alloc (.cells #[.int .u8 (n8 (f i ^^^ g i))] 5)).later ((Below.refl _ _).drew))
      have S1 := Lib.hid (show Src Tryd.prog 1 31 (.slice (some ⟨wr.heap.size, 0, none⟩) 1 1) 1 (firsts (fun _ => f i ^^^ g i) 1) (wr.alloc (.cells #[.int .u8 (n8 (f i ^^^ g i))] 5)).drew from src_bytes (fun _ => f i ^^^ g i) wr.heap.size 0 1 1 _ (fun j hj => by
        show (wr.alloc _).cell? _ = _
        rw [cell_of_row _ _ _ _ _ _ (heap_alloc_last wr _)]
        obtain rfl : j = 0 := by omega
        rfl))
      have hi14 : i + 1 ≤ 200000000000000 := by omega
      go_region_held3 (fun _ => True) (first | trivial) (first | (refine step_append_bytes (o := ⟨some 22, _, _, _, _, _⟩) (by rfl) _ _ 31 (by rfl) (by rfl) (by rfl) O1.out S1.out hi14 ?_; intro v' w1 ho hg))
      all_goals (
        have ho2 := ho.congr (g := fun j => f j ^^^ g j) (fun j hj => by
          unfold joinb
          by_cases hji : j < i
          · rw [if_pos hji]
          · obtain rfl : j = i := by omega
            rw [if_neg hji])
        have hb4 := ((HB.out.alloc HB.out.size (.cells #[.int .u8 (n8 (f i ^^^ g i))] 5)).drew).trans (hg.below O1.out)
        go_wp2_with fail
        go_roundw
        case rel => exact ⟨i + 1, by omega, by go_num, ho2, hb4⟩
        case measure => simp [intOf]; omega)
    · obtain rfl : i = n := by omega
      have cv := conv_ownB u5 i _ _ wr OW.out
      go_wp2_with fail
      go_ret
      exact ⟨rfl, HB.out⟩
/-- A text filled up with noughts: how many blocks. -/
def blocksOf (n : Nat) : Nat := (n + 15) / 16
set_option maxHeartbeats 4000000 in
theorem wholeR_any (f : Nat → BitVec 8) (n : Nat) (w : World) (hn : n ≤ 100000000000000) :
    Calls Tryd.prog 63 #[.string (strOf f n)] w fun e w' => e = .returned (.string (strOf (padF f n) (16 * blocksOf n))) ∧ w = w' := by
  have e0 : strOf f n = strOf (padF f n) n := by
    unfold strOf strL
    congr 2
    exact List.map_congr_left (fun i hi => by rw [padF, if_pos (List.mem_range.1 hi)])
  rw [e0]
  obtain ⟨T, hT⟩ : ∃ T, strOf (padF f n) (16 * blocksOf n) = T := ⟨_, rfl⟩
  rw [hT]
  have HT := Lib.hid hT
  clear hT e0
  have JN := Lib.hid (fun k (hk : n ≤ k) => (show strOf (padF f n) k ++ ⟨#[0]⟩ = strOf (padF f n) (k + 1) from by
    have h := str_join (padF f n) (fun _ => 0#8) (padF f n) k 1 (fun _ _ => rfl) (fun i hi => by rw [padF, if_neg (by omega)])
    rw [← h]
    rfl))
  have SZ := Lib.hid (fun k => strOf_size (padF f n) k)
  go_enter Tryd.func63, Tryd.ntmps63
  go_wp2_with fail
  go_loopw [0] (fun v0 wr => ∃ k : Nat, n ≤ k ∧ k ≤ 16 * blocksOf n ∧ v0 = .string (strOf (padF f n) k) ∧ w = wr)
    (fun v0 _ => 16 * blocksOf n - (match v0 with | .string s => s.size | _ => 0))
  case atStart => exact ⟨n, Nat.le_refl _, by unfold blocksOf; omega, rfl, rfl⟩
  case round =>
    obtain ⟨k, hk1, hk2, rfl, rfl⟩ := hrel
    have hsz := SZ.out k
    have jn := JN.out k hk1
    have hkb : k ≤ 100000000000016 := by unfold blocksOf at hk2; omega
    by_cases h16 : k % 16 = 0
    · obtain rfl : k = 16 * blocksOf n := by unfold blocksOf at *; omega
      rw [HT.out] at *
      have e16 : ((16 * blocksOf n : Nat) : Int).tmod 16 = 0 := by rw [Int.tmod_eq_emod_of_nonneg (by omega)]; omega
      generalize 16 * blocksOf n = q at *
      clear jn
      go_wp2_with fail
      go_ret
      exact ⟨rfl, rfl⟩
    · have e16 : ¬ ((k : Int)).tmod 16 = 0 := by rw [Int.tmod_eq_emod_of_nonneg (by omega)]; omega
      have e16' : ((k : Int).tmod 16 == 0) = false := beq_eq_false_iff_ne.2 e16
      have hk3 : k + 1 ≤ 16 * blocksOf n := by unfold blocksOf at *; omega
      have hsz2 := SZ.out (k + 1)
      have hbig : ¬ 9223372036854775807 < k + 1 := by omega
      obtain ⟨S2, hS2⟩ : ∃ S2, strOf (padF f n) (k + 1) = S2 := ⟨_, rfl⟩
      have HS2 := Lib.hid hS2
      rw [hS2] at jn hsz2
      generalize hS : strOf (padF f n) k = S at *
      clear hS hS2
      go_wp2_with fail
      go_roundw
      case rel => exact ⟨k + 1, by omega, hk3, by rw [HS2.out], trivial⟩
      case measure => simp [hsz, hsz2]; omega
end Go.Proofs.YtjbpjoondmcnlabDoor
namespace Go.Proofs.YtjbpjoondmcnlabDoor
open Go Go.RowKit Go.BigFrame
set_option maxRecDepth 100000
set_option linter.unusedSimpArgs false
/-- A count's bytes. -/
def cntB (n i : Nat) : BitVec 8 := ((BitVec.ofNat 64 n * 8#64) >>> (56 - 8 * i)).setWidth 8
theorem cnt_val (n i : Nat) (hn : n ≤ 100000000000000) : (8 * (n : Int) / ((2 ^ (56 - 8 * i) : Nat) : Int)) % 256 = n8 (cntB n i) := by
  have e : (8 * (n : Int) / ((2 ^ (56 - 8 * i) : Nat) : Int)) = ((8 * n / 2 ^ (56 - 8 * i) : Nat) : Int) := by
    rw [Int.natCast_ediv]
    rfl
  rw [e, n8_nat]
  unfold cntB
  rw [BitVec.toNat_setWidth, BitVec.toNat_ushiftRight, BitVec.toNat_mul, BitVec.toNat_ofNat, Nat.shiftRight_eq_div_pow]
  have : n % 2 ^ 64 * (8#64).toNat % 2 ^ 64 = 8 * n := by
    rw [Nat.mod_eq_of_lt (by omega : n < 2 ^ 64)]
    show n * 8 % 2 ^ 64 = 8 * n
    rw [Nat.mod_eq_of_lt (by omega)]
    omega
  rw [this]
  generalize 8 * n / 2 ^ (56 - 8 * i) = m
  omega
theorem run_make8 (w : World) : (Instr.makeSlice 31 (.int .i64 8) (.int .i64 8)).run Tryd.prog w = .ok (.slice (some ⟨w.heap.size, 0, none⟩) 8 8) (w.alloc (.cells (bytesArr (fun _ => 0#8) 8) 5)) := run_make_bytes 8 (by omega) w
set_option maxHeartbeats 8000000 in
theorem countS_any (f : Nat → BitVec 8) (n : Nat) (w : World) (hn : n ≤ 100000000000000) :
    Calls Tryd.prog 64 #[.string (strOf f n)] w fun e w' => e = .returned (.string (strOf (cntB n) 8)) ∧ Below w.heap.size w w' := by
  have hF := strOf_size f n
  generalize strOf f n = F at *
  have CV := Lib.hid (fun i => cnt_val n i hn)
  generalize hC : cntB n = C at *
  have hn8 : (8 * (n : Int)) ≤ 800000000000000 := by omega
  clear hC
  go_enter Tryd.func64, Tryd.ntmps64
  have mk := run_make8
  go_wp2_with fail
  clear mk
  have hr0 : (w.alloc (.cells (bytesArr (fun _ => 0#8) 8) 5)).heap[w.heap.size]? = some (.cells (bytesArr (fun i => if i < 0 then C i else 0#8) 8) 5 (0, 0)) := by
    rw [heap_alloc_last]
    rfl
  have hb0 : Below w.heap.size w (w.alloc (.cells (bytesArr (fun _ => 0#8) 8) 5)) := (Below.refl _ _).alloc (Nat.le_refl _) _
  generalize World.alloc _ _ = wa at *
  generalize hq : w.heap.size = q at *
  have HQ := Lib.hid hq
  clear hq
  go_loopw [5] (fun v5 wr => ∃ i : Nat, i ≤ 8 ∧ v5 = .int .i64 (i : Int) ∧ wr.heap[q]? = some (.cells (bytesArr (fun j => if j < i then C j else 0#8) 8) 5 (0, 0)) ∧ Below q w wr)
    (fun v5 _ => 8 - (intOf v5).toNat)
  case atStart => exact ⟨0, by omega, rfl, hr0, hb0⟩
  case round =>
    clear hr0 hb0
    obtain ⟨i, hi, rfl, row, hb⟩ := hrel
    by_cases hi8 : i < 8
    · have c1 := frozen_of_row wr q i _ _ row
      have c2 : wr.cell? ⟨q, i, none⟩ = some (.int .u8 (n8 0#8)) := by
        rw [cell_of_row _ _ _ _ _ _ row, bytesArr_get _ _ _ hi8, if_neg (Nat.lt_irrefl _)]
      have fin : ∀ x, x = n8 (C i) → (wr.setCell ⟨q, i, none⟩ (.int .u8 x)).heap[q]? = some (.cells (bytesArr (fun j => if j < i + 1 then C j else 0#8) 8) 5 (0, 0)) := fun x hx => by
        rw [hx, heap_setCell_same _ _ _ _ _ _ row, bytesArr_set]
        congr 2
        refine bytesArr_congr _ _ _ (fun j hj => ?_)
        unfold updb
        by_cases e : j = i
        · subst e; rw [if_pos rfl, if_pos (by omega)]
        · rw [if_neg e]
          dsimp only
          by_cases e2 : j < i
          · rw [if_pos e2, if_pos (by omega)]
          · rw [if_neg e2, if_neg (by omega)]
      have FIN := Lib.hid fin
      have cv := CV.out i
      have CV1 := Lib.hid cv
      clear fin cv row
      rcases (by omega : i = 0 ∨ i = 1 ∨ i = 2 ∨ i = 3 ∨ i = 4 ∨ i = 5 ∨ i = 6 ∨ i = 7) with rfl | rfl | rfl | rfl | rfl | rfl | rfl | rfl
      · go_wp2_with fail
        go_roundw
        case rel =>
          have h1 : (8 * (n : Int) / 72057594037927936) % 256 = n8 (C 0) := CV1.out
          exact ⟨1, by omega, rfl, FIN.out _ (by first | exact h1 | omega), hb.setCell (Nat.le_refl q) _⟩
        case measure => simp [intOf]
      · go_wp2_with fail
        go_roundw
        case rel =>
          have h1 : (8 * (n : Int) / 281474976710656) % 256 = n8 (C 1) := CV1.out
          exact ⟨2, by omega, rfl, FIN.out _ (by first | exact h1 | omega), hb.setCell (Nat.le_refl q) _⟩
        case measure => simp [intOf]
      · go_wp2_with fail
        go_roundw
        case rel =>
          have h1 : (8 * (n : Int) / 1099511627776) % 256 = n8 (C 2) := CV1.out
          exact ⟨3, by omega, rfl, FIN.out _ (by first | exact h1 | omega), hb.setCell (Nat.le_refl q) _⟩
        case measure => simp [intOf]
      · go_wp2_with fail
        go_roundw
        case rel =>
          have h1 : (8 * (n : Int) / 4294967296) % 256 = n8 (C 3) := CV1.out
          exact ⟨4, by omega, rfl, FIN.out _ (by first | exact h1 | omega), hb.setCell (Nat.le_refl q) _⟩
        case measure => simp [intOf]
      · go_wp2_with fail
        go_roundw
        case rel =>
          have h1 : (8 * (n : Int) / 16777216) % 256 = n8 (C 4) := CV1.out
          exact ⟨5, by omega, rfl, FIN.out _ (by first | exact h1 | omega), hb.setCell (Nat.le_refl q) _⟩
        case measure => simp [intOf]
      · go_wp2_with fail
        go_roundw
        case rel =>
          have h1 : (8 * (n : Int) / 65536) % 256 = n8 (C 5) := CV1.out
          exact ⟨6, by omega, rfl, FIN.out _ (by first | exact h1 | omega), hb.setCell (Nat.le_refl q) _⟩
        case measure => simp [intOf]
      · go_wp2_with fail
        go_roundw
        case rel =>
          have h1 : (8 * (n : Int) / 256) % 256 = n8 (C 6) := CV1.out
          exact ⟨7, by omega, rfl, FIN.out _ (by first | exact h1 | omega), hb.setCell (Nat.le_refl q) _⟩
        case measure => simp [intOf]
      · go_wp2_with fail
        go_roundw
        case rel =>
          have h1 : (8 * (n : Int) / 1) % 256 = n8 (C 7) := CV1.out
          exact ⟨8, by omega, rfl, FIN.out _ (by first | exact h1 | omega), hb.setCell (Nat.le_refl q) _⟩
        case measure => simp [intOf]
    · obtain rfl : i = 8 := by omega
      have cv := conv_str C q 0 8 8 wr (fun i hi => by rw [cell_of_row _ _ _ _ _ _ row, Nat.zero_add, bytesArr_get _ _ _ hi, if_pos hi])
      go_wp2_with fail
      go_ret
      exact ⟨rfl, by rw [HQ.out]; exact hb⟩
end Go.Proofs.YtjbpjoondmcnlabDoor
namespace Go.Proofs.YtjbpjoondmcnlabDoor
open Go Go.RowKit Go.BigFrame
set_option maxRecDepth 100000
set_option linter.unusedSimpArgs false
set_option maxHeartbeats 8000000 in
theorem sumR_any (h s : Nat → BitVec 8) (k : Nat) (w : World) (hk : k ≤ 100000000000000) :
    Calls Tryd.prog 62 #[.string (strOf h 16), .string (strOf s (16 * k))] w fun e w' => e = .returned (.string (strOf (sumK (W2.of h) ⟨0#64, 0#64⟩ s k).byte 16)) ∧ Below w.heap.size w w' := by
  have hS := strOf_size s (16 * k)
  have EX : ∀ i, i < k → (strOf s (16 * k)).extract (16 * i) (16 * i + 16) = strOf (fun j => s (16 * i + j)) 16 := fun i hi => by
    rw [str_cut s (16 * i) (16 * i + 16) (16 * k) (by omega) (by omega)]
    congr 1
    omega
  have z0 : strOf (fun _ => 0#8) 16 = strOf (sumK (W2.of h) ⟨0#64, 0#64⟩ s 0).byte 16 := by
    have h : strOf (fun _ => 0#8) 16 = strOf (W2.mk 0#64 0#64).byte 16 := by decide
    exact h
  have XR : ∀ (i : Nat) (hi : i < k) (w' : World), Calls Tryd.prog 61 #[.string (strOf (sumK (W2.of h) ⟨0#64, 0#64⟩ s i).byte 16), .string ((strOf s (16 * k)).extract (16 * i) (16 * i + 16))] w' fun e w'' => e = .returned (.string (strOf (fun j => (sumK (W2.of h) ⟨0#64, 0#64⟩ s i).byte j ^^^ s (16 * i + j)) 16)) ∧ Below w'.heap.size w' w'' := fun i hi w' => by
    rw [EX i hi]
    exact xorR_any (sumK (W2.of h) ⟨0#64, 0#64⟩ s i).byte (fun j => s (16 * i + j)) 16 16 w' (Nat.le_refl _) (by omega)
  have XR := Lib.hid XR
  have TR := Lib.hid (fun (i : Nat) (w' : World) => timesR2_any (fun j => (sumK (W2.of h) ⟨0#64, 0#64⟩ s i).byte j ^^^ s (16 * i + j)) h w')
  have SK : ∀ i, W2.mul (W2.of (fun j => (sumK (W2.of h) ⟨0#64, 0#64⟩ s i).byte j ^^^ s (16 * i + j))) (W2.of h) = sumK (W2.of h) ⟨0#64, 0#64⟩ s (i + 1) := fun i => by
    rw [of_xor (sumK (W2.of h) ⟨0#64, 0#64⟩ s i).byte (fun j => s (16 * i + j)), w2_of_byte]
    rfl
  simp only [SK] at TR
  generalize hU : (fun i => strOf (sumK (W2.of h) ⟨0#64, 0#64⟩ s i).byte 16) = U at *
  have eU : ∀ i, strOf (sumK (W2.of h) ⟨0#64, 0#64⟩ s i).byte 16 = U i := fun i => by rw [← hU]
  simp only [eU] at XR TR z0 ⊢
  generalize strOf h 16 = H at *
  generalize strOf s (16 * k) = S at *
  have ZC := Lib.hid (fun (w' : World) (q : Nat) (hq : w'.heap[q]? = some (.cells (bytesArr (fun _ => 0#8) 16) 5 (0, 0))) => conv_str (fun _ => 0#8) q 0 16 16 w' (fun i hi => by rw [cell_of_row _ _ _ _ _ _ hq, Nat.zero_add]; exact bytesArr_get _ _ _ hi))
  rw [z0] at ZC
  clear hU eU SK z0 EX
  go_enter Tryd.func62, Tryd.ntmps62
  have mk := run_make16
  have zc := ZC.out (w.alloc (.cells (bytesArr (fun _ => 0#8) 16) 5)) w.heap.size (heap_alloc_last _ _)
  go_wp2_with fail
  clear mk zc ZC
  have hb0 : Below w.heap.size w (w.alloc (.cells (bytesArr (fun _ => 0#8) 16) 5)) := (Below.refl _ _).alloc (Nat.le_refl _) _
  generalize World.alloc _ _ = wa at *
  go_loopw [5, 6] (fun v5 v6 wr => ∃ i : Nat, i ≤ k ∧ v6 = .int .i64 ((16 * i : Nat) : Int) ∧ v5 = .string (U i) ∧ Below w.heap.size w wr)
    (fun _ v6 _ => 16 * k - (intOf v6).toNat)
  case atStart => exact ⟨0, by omega, rfl, rfl, hb0⟩
  case round =>
    clear hb0
    obtain ⟨i, hi, rfl, rfl, hb⟩ := hrel
    have HB := Lib.hid hb
    clear hb
    by_cases hik : i < k
    · have hikI : ((16 * i : Nat) : Int) < ((16 * k : Nat) : Int) := by omega
      go_wp2_with fail
      with_reducible refine (XR.out i hik _).mono ?_
      rintro e w1 ⟨rfl, hb1⟩
      go_wp2_with fail
      with_reducible refine (TR.out i _).mono ?_
      rintro e w2 ⟨rfl, hb2⟩
      have HB2 := Lib.hid ((HB.out.trans (hb1.mono HB.out.size)).trans (hb2.mono (Nat.le_trans HB.out.size hb1.size)))
      clear hb1 hb2
      go_wp2_with fail
      go_roundw
      case rel => exact ⟨i + 1, by omega, by go_num, rfl, HB2.out⟩
      case measure => simp [intOf]; omega
    · obtain rfl : i = k := by omega
      go_wp2_with fail
      go_ret
      exact ⟨rfl, HB.out⟩
end Go.Proofs.YtjbpjoondmcnlabDoor
/-
  THE DOCUMENT'S ANSWER FOR gcm: seal, Seal, Open.
-/
namespace Go.Proofs.YtjbpjoondmcnlabDoor
open Go Go.RowKit Go.BigFrame
set_option maxRecDepth 100000
set_option linter.unusedSimpArgs false
theorem w2_byte_of (f : Nat → BitVec 8) (i : Nat) (hi : i < 16) : (W2.of f).byte i = f i := by
  apply BitVec.eq_of_getLsbD_eq
  intro c hc
  rw [byte_bit _ _ _ hi hc, of_bit _ _ (by omega)]
  unfold bitS
  rw [show (8 * i + (7 - c)) / 8 = i by omega, show 7 - (8 * i + (7 - c)) % 8 = c by omega]
theorem sumK_add (h r : W2) (f : Nat → BitVec 8) (a b : Nat) : sumK h r f (a + b) = sumK h (sumK h r f a) (fun i => f (16 * a + i)) b := by
  induction b with
  | zero => rfl
  | succ b ih =>
    rw [← Nat.add_assoc, sumK, sumK, ih]
    congr 3
    funext i
    rw [show 16 * (a + b) + i = 16 * a + (16 * b + i) by omega]
theorem sumB_K (h r : W2) (f : Nat → BitVec 8) (n : Nat) : sumGB h r f n = sumK h r (padF f n) (blocksOf n) := by
  unfold sumGB
  have hd := Nat.div_add_mod n 16
  have e : sumK h r f (n / 16) = sumK h r (padF f n) (n / 16) := sumK_congr h r _ _ _ (fun i hi => by rw [padF, if_pos (by omega)])
  by_cases h0 : n % 16 = 0
  · rw [if_pos h0, e, show blocksOf n = n / 16 by unfold blocksOf; omega]
  · rw [if_neg h0, e, show blocksOf n = n / 16 + 1 by unfold blocksOf; omega, sumK]
    congr 2
    refine of2_congr _ _ (fun i hi => ?_)
    unfold padF
    by_cases h1 : i < n % 16
    · rw [if_pos h1, if_pos (by omega)]
    · rw [if_neg h1, if_neg (by omega)]
theorem joined (f g : Nat → BitVec 8) (a b : Nat) : strOf f a ++ strOf g b = strOf (joinb f a g) (a + b) :=
  str_join f g (joinb f a g) a b (fun i hi => by rw [joinb, if_pos hi]) (fun i _ => by rw [joinb, if_neg (by omega), show a + i - a = i by omega])
/-- All that is summed: what is beside, what is hidden, both counts. -/
def sealT (g : Nat → BitVec 8) (n : Nat) (u : Nat → BitVec 8) (m : Nat) : Nat → BitVec 8 :=
  joinb (joinb (joinb (padF g n) (16 * blocksOf n) (padF u m)) (16 * blocksOf n + 16 * blocksOf m) (cntB n)) (16 * blocksOf n + 16 * blocksOf m + 8) (cntB m)
theorem sealT_text (g : Nat → BitVec 8) (n : Nat) (u : Nat → BitVec 8) (m : Nat) :
    strOf (padF g n) (16 * blocksOf n) ++ strOf (padF u m) (16 * blocksOf m) ++ strOf (cntB n) 8 ++ strOf (cntB m) 8 = strOf (sealT g n u m) (16 * (blocksOf n + blocksOf m + 1)) := by
  rw [joined, joined, joined]
  unfold sealT
  congr 1
  omega
theorem sealT_sum (h : W2) (g : Nat → BitVec 8) (n : Nat) (u : Nat → BitVec 8) (m : Nat) :
    sumK h ⟨0#64, 0#64⟩ (sealT g n u m) (blocksOf n + blocksOf m + 1) = W2.mul (W2.xor (sumGB h (sumGB h ⟨0#64, 0#64⟩ g n) u m) (cnt2 n m)) h := by
  rw [sumK, sumK_add, sumB_K, sumB_K]
  rw [sumK_congr h ⟨0#64, 0#64⟩ (sealT g n u m) (padF g n) (blocksOf n) (fun i hi => by
    unfold sealT
    rw [joinb, if_pos (by omega), joinb, if_pos (by omega), joinb, if_pos hi])]
  rw [sumK_congr h _ (fun i => sealT g n u m (16 * blocksOf n + i)) (padF u m) (blocksOf m) (fun i hi => by
    unfold sealT
    rw [joinb, if_pos (by omega), joinb, if_pos (by omega), joinb, if_neg (by omega), show 16 * blocksOf n + i - 16 * blocksOf n = i by omega])]
  rw [of2_congr (fun i => sealT g n u m (16 * (blocksOf n + blocksOf m) + i)) (cnt2 n m).byte (fun i hi => by
    unfold sealT W2.byte
    by_cases h8 : i < 8
    · rw [if_pos h8, joinb, if_pos (by omega), joinb, if_neg (by omega), show 16 * (blocksOf n + blocksOf m) + i - (16 * blocksOf n + 16 * blocksOf m) = i by omega]
      rfl
    · rw [if_neg h8, joinb, if_neg (by omega), show 16 * (blocksOf n + blocksOf m) + i - (16 * blocksOf n + 16 * blocksOf m + 8) = i - 8 by omega]
      rfl), w2_of_byte]
theorem ctr_text (f : Nat → BitVec 8) (x : BitVec 8) (t : ByteArray) (ht : t = strOf (fun i => if i = 3 then x else 0#8) 4) : strOf f 12 ++ t = strOf (ctrN f x) 16 := by
  rw [ht]
  refine str_join f (fun i => if i = 3 then x else 0#8) (ctrN f x) 12 4 (fun i hi => by rw [ctrN, if_pos hi]) (fun i hi => ?_)
  show (if i = 3 then x else 0#8) = (if 12 + i < 12 then f (12 + i) else if 12 + i = 15 then x else 0#8)
  rw [if_neg (show ¬ 12 + i < 12 by omega)]
  by_cases h3 : i = 3
  · rw [if_pos h3, if_pos (show 12 + i = 15 by omega)]
  · rw [if_neg h3, if_neg (show ¬ 12 + i = 15 by omega)]
set_option maxHeartbeats 8000000 in
theorem sealR_any (k f g u : Nat → BitVec 8) (n m p : Nat) (w : World) (hk : w.heap[p]? = some (.cells (bytesArr (keyF (kbyte k)) 432) 110 (0, 0))) (hn : n ≤ 10000000000000) (hm : m ≤ 10000000000000) :
    Calls Tryd.prog 45 #[.pointer (some ⟨p, 0, none⟩), .string (strOf f 12), .string (strOf g n), .string (strOf u m)] w fun e w' => e = .returned (.string (strOf (tagW (sched k) (hOf (sched k)) f g n u m).byte 16)) ∧ Below w.heap.size w w' := by
  have KP := Lib.hid (fun (w' : World) (hb : Below w.heap.size w w') => (hb.block p (lt_row hk)).trans hk)
  have B0 := Lib.hid (fun (w' : World) (hw : w'.heap[p]? = some (.cells (bytesArr (keyF (kbyte k)) 432) 110 (0, 0))) => blockR_any k (fun _ => 0#8) p w' hw)
  have B1 := Lib.hid (fun (w' : World) (hw : w'.heap[p]? = some (.cells (bytesArr (keyF (kbyte k)) 432) 110 (0, 0))) => blockR_any k (ctrN f 1#8) p w' hw)
  have HK := Lib.hid hk
  clear hk
  have hbn : blocksOf n ≤ 1000000000000 := by unfold blocksOf; omega
  have hbm : blocksOf m ≤ 1000000000000 := by unfold blocksOf; omega
  have SU := Lib.hid (fun w' => sumR_any (turned sbox (sched k) (W4.of (fun _ => 0#8))).byte (sealT g n u m) (blocksOf n + blocksOf m + 1) w' (by omega))
  have XO := Lib.hid (fun w' => xorR_any (sumK (W2.of (turned sbox (sched k) (W4.of (fun _ => 0#8))).byte) ⟨0#64, 0#64⟩ (sealT g n u m) (blocksOf n + blocksOf m + 1)).byte (turned sbox (sched k) (W4.of (ctrN f 1#8))).byte 16 16 w' (Nat.le_refl _) (by omega))
  have ef : strOf (fun i => (sumK (W2.of (turned sbox (sched k) (W4.of (fun _ => 0#8))).byte) ⟨0#64, 0#64⟩ (sealT g n u m) (blocksOf n + blocksOf m + 1)).byte i ^^^ (turned sbox (sched k) (W4.of (ctrN f 1#8))).byte i) 16 = strOf (tagW (sched k) (hOf (sched k)) f g n u m).byte 16 := by
    unfold strOf strL
    congr 2
    refine List.map_congr_left (fun i hi => ?_)
    rw [tagW, byte_xor _ _ _ (List.mem_range.1 hi), w2_byte_of _ _ (List.mem_range.1 hi), sealT_sum]
    rfl
  rw [ef] at XO
  have WG := Lib.hid (fun w' => wholeR_any g n w' (by omega))
  have WU := Lib.hid (fun w' => wholeR_any u m w' (by omega))
  have CG := Lib.hid (fun w' => countS_any g n w' (by omega))
  have CU := Lib.hid (fun w' => countS_any u m w' (by omega))
  have et := sealT_text g n u m
  have z1 := strOf_size (padF g n) (16 * blocksOf n)
  have z2 := strOf_size (padF u m) (16 * blocksOf m)
  have z3 := strOf_size (cntB n) 8
  have z4 := strOf_size (cntB m) 8
  have z5 := strOf_size f 12
  have ec := ctr_text f 1#8 ⟨#[0, 0, 0, 1]⟩ (by decide)
  generalize (sumK (W2.of (turned sbox (sched k) (W4.of (fun _ => 0#8))).byte) ⟨0#64, 0#64⟩ (sealT g n u m) (blocksOf n + blocksOf m + 1)) = SS at *
  generalize strOf (tagW (sched k) (hOf (sched k)) f g n u m).byte 16 = TT at *
  generalize strOf (sealT g n u m) (16 * (blocksOf n + blocksOf m + 1)) = JT at *
  generalize strOf SS.byte 16 = ST at *
  generalize strOf (turned sbox (sched k) (W4.of (fun _ => 0#8))).byte 16 = HT at *
  generalize strOf (turned sbox (sched k) (W4.of (ctrN f 1#8))).byte 16 = MT at *
  generalize strOf (padF g n) (16 * blocksOf n) = T1 at *
  generalize strOf (padF u m) (16 * blocksOf m) = T2 at *
  generalize strOf (cntB n) 8 = T3 at *
  generalize strOf (cntB m) 8 = T4 at *
  generalize strOf (ctrN f 1#8) 16 = CT at *
  have ZC := Lib.hid (fun (w' : World) (q : Nat) (hq : w'.heap[q]? = some (.cells (bytesArr (fun _ => 0#8) 16) 5 (0, 0))) => conv_str (fun _ => 0#8) q 0 16 16 w' (fun i hi => by rw [cell_of_row _ _ _ _ _ _ hq, Nat.zero_add]; exact bytesArr_get _ _ _ hi))
  generalize strOf (fun _ => 0#8) 16 = ZT at *
  generalize strOf f 12 = FT at *
  generalize strOf g n = GT at *
  generalize strOf u m = UT at *
  clear ef
  obtain ⟨b1, hb1⟩ : ∃ b1, blocksOf n = b1 := ⟨_, rfl⟩
  obtain ⟨b2, hb2⟩ : ∃ b2, blocksOf m = b2 := ⟨_, rfl⟩
  rw [hb1] at hbn z1
  rw [hb2] at hbm z2
  clear hb1 hb2
  have s12 : (T1 ++ T2).size = 16 * b1 + 16 * b2 := by rw [ByteArray.size_append, z1, z2]
  have s123 : (T1 ++ T2 ++ T3).size = 16 * b1 + 16 * b2 + 8 := by rw [ByteArray.size_append, s12, z3]
  have q1 : ¬ 9223372036854775807 < 16 * b1 + 16 * b2 := by omega
  have q2 : ¬ 9223372036854775807 < 16 * b1 + 16 * b2 + 8 := by omega
  have q3 : ¬ 9223372036854775807 < 16 * b1 + 16 * b2 + 8 + 8 := by omega
  go_enter Tryd.func45, Tryd.ntmps45
  have mk := run_make16
  have zc := ZC.out (w.alloc (.cells (bytesArr (fun _ => 0#8) 16) 5)) w.heap.size (heap_alloc_last _ _)
  go_wp2_with fail
  clear mk zc ZC
  have hb0 : Below w.heap.size w (w.alloc (.cells (bytesArr (fun _ => 0#8) 16) 5)) := (Below.refl _ _).alloc (Nat.le_refl _) _
  generalize World.alloc _ _ = wa at *
  with_reducible refine (B0.out wa (KP.out wa hb0)).mono ?_
  rintro e w1 ⟨rfl, hb1⟩
  have H1 := Lib.hid (hb0.trans (hb1.mono hb0.size))
  clear hb0 hb1
  have HB0 := H1
  clear H1
  go_wp2_with fail
  with_reducible refine (WG.out _).mono ?_
  rintro e w' ⟨rfl, rfl⟩
  go_wp2_with fail
  with_reducible refine (WU.out _).mono ?_
  rintro e w' ⟨rfl, rfl⟩
  go_wp2_with fail
  with_reducible refine (CG.out _).mono ?_
  rintro e w4 ⟨rfl, hb⟩
  have HB1 := Lib.hid (HB0.out.trans (hb.mono HB0.out.size))
  clear hb HB0
  have HB0 := HB1
  clear HB1
  go_wp2_with fail
  with_reducible refine (CU.out _).mono ?_
  rintro e w5 ⟨rfl, hb⟩
  have HB1 := Lib.hid (HB0.out.trans (hb.mono HB0.out.size))
  clear hb HB0
  have HB0 := HB1
  clear HB1
  go_wp2_with fail
  with_reducible refine (SU.out _).mono ?_
  rintro e w6 ⟨rfl, hb⟩
  have HB1 := Lib.hid (HB0.out.trans (hb.mono HB0.out.size))
  clear hb HB0
  have HB0 := HB1
  clear HB1
  go_wp2_with fail
  with_reducible refine (B1.out _ (KP.out _ HB0.out)).mono ?_
  rintro e w7 ⟨rfl, hb⟩
  have HB1 := Lib.hid (HB0.out.trans (hb.mono HB0.out.size))
  clear hb HB0
  have HB0 := HB1
  clear HB1
  go_wp2_with fail
  with_reducible refine (XO.out _).mono ?_
  rintro e w8 ⟨rfl, hb⟩
  have HB1 := Lib.hid (HB0.out.trans (hb.mono HB0.out.size))
  clear hb HB0
  have HB0 := HB1
  clear HB1
  go_wp2_with fail
  go_ret
  exact ⟨rfl, HB0.out⟩
end Go.Proofs.YtjbpjoondmcnlabDoor
namespace Go.Proofs.YtjbpjoondmcnlabDoor
open Go Go.RowKit Go.BigFrame
set_option maxRecDepth 100000
set_option linter.unusedSimpArgs false
set_option maxHeartbeats 4000000 in
theorem sealD_bad (S1 S2 S3 S4 : ByteArray) (n : Nat) (hs : S2.size = n) (hn : n ≠ 12) (w : World) :
    Calls Tryd.prog 22 #[.string S1, .string S2, .string S3, .string S4] w fun e w' => e = .returned (.tuple #[.string ⟨#[]⟩, .int .i64 1]) ∧ w = w' := by
  have hnI : ¬ (n : Int) = 12 := by omega
  have hnI' : ((n : Int) == 12) = false := beq_eq_false_iff_ne.2 hnI
  go_enter Tryd.func22, Tryd.ntmps22
  go_wp2_with fail
  go_ret2
  exact ⟨rfl, rfl⟩
set_option maxHeartbeats 8000000 in
theorem sealD_ok (k f g xs : Nat → BitVec 8) (n m : Nat) (w : World) (hn : n ≤ 10000000000000) (hm : m ≤ 1000000000000) :
    Calls Tryd.prog 22 #[.string (strOf k 16), .string (strOf f 12), .string (strOf g n), .string (strOf xs m)] w fun e w' => e = .returned (.tuple #[.string (strOf (sealF (sched k) (hOf (sched k)) f g n xs m) (m + 16)), .int .i64 0]) ∧ Below w.heap.size w w' := by
  have RK := Lib.hid (fun w' => readyR_any k w')
  have ST := fun (w' : World) (p : Nat) (hk : w'.heap[p]? = some (.cells (bytesArr (keyF (kbyte k)) 432) 110 (0, 0))) => streamR_any k (ctrN f 2#8) xs m 0 p w' hk (by omega) (by omega)
  have eh : (fun j => xs j ^^^ strm (sched k) (W4.of (ctrN f 2#8)) (0 + j)) = hid (sched k) f xs := by
    funext j
    unfold hid
    rw [Nat.zero_add]
  rw [eh] at ST
  simp only [show ((0 : Nat) : Int) = 0 from rfl] at ST
  have SL := Lib.hid (fun (w' : World) (p : Nat) (hk : w'.heap[p]? = some (.cells (bytesArr (keyF (kbyte k)) 432) 110 (0, 0))) => sealR_any k f g (hid (sched k) f xs) n m p w' hk hn (by omega))
  have ec := ctr_text f 2#8 ⟨#[0, 0, 0, 2]⟩ (by decide)
  have ej := joined (hid (sched k) f xs) (tagW (sched k) (hOf (sched k)) f g n (hid (sched k) f xs) m).byte m 16
  rw [show joinb (hid (sched k) f xs) m (tagW (sched k) (hOf (sched k)) f g n (hid (sched k) f xs) m).byte = sealF (sched k) (hOf (sched k)) f g n xs m from rfl] at ej
  have z1 := strOf_size f 12
  have z2 := strOf_size (hid (sched k) f xs) m
  have z3 := strOf_size (tagW (sched k) (hOf (sched k)) f g n (hid (sched k) f xs) m).byte 16
  generalize strOf (sealF (sched k) (hOf (sched k)) f g n xs m) (m + 16) = OUT at *
  generalize strOf (tagW (sched k) (hOf (sched k)) f g n (hid (sched k) f xs) m).byte 16 = TG at *
  generalize strOf (hid (sched k) f xs) m = HX at *
  generalize strOf (ctrN f 2#8) 16 = CT at *
  generalize strOf f 12 = FT at *
  generalize strOf g n = GT at *
  generalize strOf xs m = XT at *
  generalize strOf k 16 = KT at *
  have ST := Lib.hid ST
  have q1 : ¬ 9223372036854775807 < m + 16 := by omega
  clear eh
  go_enter Tryd.func22, Tryd.ntmps22
  go_wp2_with fail
  with_reducible refine (RK.out _).mono ?_
  rintro e w1 ⟨p, rfl, my⟩
  have HK := Lib.hid (fun (w' : World) (hb : Below w1.heap.size w1 w') => (hb.block p (lt_row my.row)).trans my.row)
  have HB := Lib.hid my.below
  clear my
  go_wp2_with fail
  with_reducible refine (ST.out _ p (HK.out _ (Below.refl _ _))).mono ?_
  rintro e w2 ⟨rfl, hb2⟩
  have H2 := Lib.hid hb2
  clear hb2
  go_wp2_with fail
  with_reducible refine (SL.out _ p (HK.out _ H2.out)).mono ?_
  rintro e w3 ⟨rfl, hb3⟩
  have H3 := Lib.hid (HB.out.trans ((H2.out.trans (hb3.mono H2.out.size)).mono HB.out.size))
  clear hb3
  go_wp2_with fail
  go_ret2
  exact ⟨rfl, H3.out⟩
set_option maxHeartbeats 4000000 in
theorem openD_bad (S1 S2 S3 S4 : ByteArray) (n : Nat) (hs : S2.size = n) (hn : n ≠ 12) (w : World) :
    Calls Tryd.prog 34 #[.string S1, .string S2, .string S3, .string S4] w fun e w' => e = .returned (.tuple #[.string ⟨#[]⟩, .int .i64 1]) ∧ w = w' := by
  have hnI : ¬ (n : Int) = 12 := by omega
  have hnI' : ((n : Int) == 12) = false := beq_eq_false_iff_ne.2 hnI
  go_enter Tryd.func34, Tryd.ntmps34
  go_wp2_with fail
  go_ret2
  exact ⟨rfl, rfl⟩
set_option maxHeartbeats 4000000 in
theorem openD_short (S1 S2 S3 S4 : ByteArray) (m : Nat) (hs : S2.size = 12) (hm : S4.size = m) (hl : m < 16) (w : World) :
    Calls Tryd.prog 34 #[.string S1, .string S2, .string S3, .string S4] w fun e w' => e = .returned (.tuple #[.string ⟨#[]⟩, .int .i64 3]) ∧ w = w' := by
  have hnI : (m : Int) < 16 := by omega
  go_enter Tryd.func34, Tryd.ntmps34
  go_wp2_with fail
  go_ret2
  exact ⟨rfl, rfl⟩
set_option maxHeartbeats 8000000 in
theorem openD_ok (k f g xs : Nat → BitVec 8) (n m : Nat) (w : World) (hn : n ≤ 10000000000000) (hm : m ≤ 1000000000000) :
    Calls Tryd.prog 34 #[.string (strOf k 16), .string (strOf f 12), .string (strOf g n), .string (strOf xs (m + 16))] w fun e w' => Below w.heap.size w w' ∧
      ((openE (sched k) (hOf (sched k)) f g n xs m = true ∧ e = .returned (.tuple #[.string (strOf (hid (sched k) f xs) m), .int .i64 0])) ∨ (openE (sched k) (hOf (sched k)) f g n xs m = false ∧ e = .returned (.tuple #[.string ⟨#[]⟩, .int .i64 4]))) := by
  have RK := Lib.hid (fun w' => readyR_any k w')
  have ST := fun (w' : World) (p : Nat) (hk : w'.heap[p]? = some (.cells (bytesArr (keyF (kbyte k)) 432) 110 (0, 0))) => streamR_any k (ctrN f 2#8) xs m 0 p w' hk (by omega) (by omega)
  have eh : (fun j => xs j ^^^ strm (sched k) (W4.of (ctrN f 2#8)) (0 + j)) = hid (sched k) f xs := by
    funext j
    unfold hid
    rw [Nat.zero_add]
  rw [eh] at ST
  simp only [show ((0 : Nat) : Int) = 0 from rfl] at ST
  have SL := Lib.hid (fun (w' : World) (p : Nat) (hk : w'.heap[p]? = some (.cells (bytesArr (keyF (kbyte k)) 432) 110 (0, 0))) => sealR_any k f g xs n m p w' hk hn (by omega))
  have ec := ctr_text f 2#8 ⟨#[0, 0, 0, 2]⟩ (by decide)
  have z1 := strOf_size f 12
  have z2 := strOf_size xs (m + 16)
  have x1 : (strOf xs (m + 16)).extract 0 m = strOf xs m := by
    rw [str_cut xs 0 m (m + 16) (Nat.zero_le _) (by omega)]
    congr 1
    funext i
    rw [Nat.zero_add]
  have x2 : (strOf xs (m + 16)).extract m (m + 16) = strOf (fun i => xs (m + i)) 16 := by
    rw [str_cut xs m (m + 16) (m + 16) (by omega) (Nat.le_refl _)]
    congr 1
    omega
  have s1 := strOf_allEq (tagW (sched k) (hOf (sched k)) f g n xs m).byte (fun i => xs (m + i)) 16
  have s2 := strOf_list_allEq (tagW (sched k) (hOf (sched k)) f g n xs m).byte (fun i => xs (m + i)) 16
  have eE : openE (sched k) (hOf (sched k)) f g n xs m = allEq (tagW (sched k) (hOf (sched k)) f g n xs m).byte (fun i => xs (m + i)) 16 := by
    rw [Bool.eq_iff_iff, allEq_iff]
    unfold openE
    rw [beq_iff_eq, accD_zero]
  rw [eE]
  generalize allEq (tagW (sched k) (hOf (sched k)) f g n xs m).byte (fun i => xs (m + i)) 16 = E at *
  generalize strOf (tagW (sched k) (hOf (sched k)) f g n xs m).byte 16 = TG at *
  generalize strOf (fun i => xs (m + i)) 16 = SH at *
  generalize strOf (hid (sched k) f xs) m = HX at *
  generalize strOf (ctrN f 2#8) 16 = CT at *
  generalize strOf f 12 = FT at *
  generalize strOf g n = GT at *
  generalize strOf xs m = XM at *
  generalize strOf xs (m + 16) = XT at *
  generalize strOf k 16 = KT at *
  have ST := Lib.hid ST
  have hnI : ¬ ((m : Int) + 16 < 16) := by omega
  have e1 : IntKind.i64.wrap (m : Int) = (m : Int) := by rw [IntKind.wrap_i64]; omega
  have e2 : (m : Int) + 16 - 16 = (m : Int) := by omega
  clear eh eE
  go_enter Tryd.func34, Tryd.ntmps34
  go_wp2_with fail
  with_reducible refine (RK.out _).mono ?_
  rintro e w1 ⟨p, rfl, my⟩
  have HK := Lib.hid (fun (w' : World) (hb : Below w1.heap.size w1 w') => (hb.block p (lt_row my.row)).trans my.row)
  have HB := Lib.hid my.below
  clear my
  go_upto_region 7 with (fail)
  refine region_class1 10 (fun w' => Below w1.heap.size w1 w') mixedOrders (by kernel_rfl) (Below.refl _ _).drew rfl ?_
  refine wpQuiet_take (by rfl) (fun K hK => ⟨.pointer (some ⟨p, 0, none⟩), fun w2' hw2 => ?_, hK _ ?_⟩)
  · clear hw2; go_simp
  clear hK K
  simp only [Act.put, List.setIfInBounds_toArray, List.set_cons_succ, List.set_cons_zero]
  refine wpQuiet_take (by rfl) (fun K hK => ⟨.string FT, fun w2' hw2 => ?_, hK _ ?_⟩)
  · clear hw2; go_simp
  clear hK K
  simp only [Act.put, List.setIfInBounds_toArray, List.set_cons_succ, List.set_cons_zero]
  refine wpQuiet_take (by rfl) (fun K hK => ⟨.string GT, fun w2' hw2 => ?_, hK _ ?_⟩)
  · clear hw2; go_simp
  clear hK K
  simp only [Act.put, List.setIfInBounds_toArray, List.set_cons_succ, List.set_cons_zero]
  refine wpQuiet_take (by rfl) (fun K hK => ⟨.string XM, fun w2' hw2 => ?_, hK _ ?_⟩)
  · clear hw2; go_simp
  clear hK K
  simp only [Act.put, List.setIfInBounds_toArray, List.set_cons_succ, List.set_cons_zero]
  refine wpQuiet_take (by rfl) (fun K hK => ⟨.string TG, fun w2' hw2 => ?_, hK _ ?_⟩)
  · go_simp
    go_at_call 45
    with_reducible refine (SL.out w2' p (HK.out _ hw2)).mono ?_
    rintro e w5 ⟨rfl, hb5⟩
    exact ⟨rfl, hw2.trans (hb5.mono hw2.size)⟩
  clear hK K
  simp only [Act.put, List.setIfInBounds_toArray, List.set_cons_succ, List.set_cons_zero]
  refine wpQuiet_take (by rfl) (fun K hK => ⟨.string XT, fun w2' hw2 => ?_, hK _ ?_⟩)
  · clear hw2; go_simp
  clear hK K
  simp only [Act.put, List.setIfInBounds_toArray, List.set_cons_succ, List.set_cons_zero]
  refine wpQuiet_take (by rfl) (fun K hK => ⟨.string XT, fun w2' hw2 => ?_, hK _ ?_⟩)
  · clear hw2; go_simp
  clear hK K
  simp only [Act.put, List.setIfInBounds_toArray, List.set_cons_succ, List.set_cons_zero]
  refine wpQuiet_take (by rfl) (fun K hK => ⟨.int .i64 ((m : Int) + 16), fun w2' hw2 => ?_, hK _ ?_⟩)
  · clear hw2; go_simp
  clear hK K
  simp only [Act.put, List.setIfInBounds_toArray, List.set_cons_succ, List.set_cons_zero]
  refine wpQuiet_take (by rfl) (fun K hK => ⟨.int .i64 (m : Int), fun w2' hw2 => ?_, hK _ ?_⟩)
  · clear hw2; go_simp
  clear hK K
  simp only [Act.put, List.setIfInBounds_toArray, List.set_cons_succ, List.set_cons_zero]
  refine wpQuiet_take (by rfl) (fun K hK => ⟨.string SH, fun w2' hw2 => ?_, hK _ ?_⟩)
  · have hle : (m : Int) ≤ (m : Int) + 16 := by omega
    clear hw2; go_simp
  clear hK K
  simp only [Act.put, List.setIfInBounds_toArray, List.set_cons_succ, List.set_cons_zero]
  refine wpQuiet_take0 ?_
  intro w6 hb6
  have H6 := Lib.hid hb6
  clear hb6
  cases E with
  | false =>
    go_wp2_with fail
    go_ret2
    exact ⟨HB.out.trans (H6.out.mono HB.out.size), rfl⟩
  | true =>
    go_wp2_with fail
    with_reducible refine (ST.out _ p (HK.out _ H6.out)).mono ?_
    rintro e w2 ⟨rfl, hb2⟩
    have H2 := Lib.hid (HB.out.trans ((H6.out.trans (hb2.mono H6.out.size)).mono HB.out.size))
    clear hb2
    go_wp2_with fail
    go_ret2
    exact ⟨H2.out, rfl⟩
end Go.Proofs.YtjbpjoondmcnlabDoor
