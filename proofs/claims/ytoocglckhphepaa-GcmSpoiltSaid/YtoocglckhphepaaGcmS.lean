/-
  THE DOCUMENT'S ANSWER FOR gcm: Xor, whole, count, Sum.
-/
import Derived.Test.YtoocglckhphepaaGcmQ
namespace Go.Proofs.Ytoocglckhphepaa
open Go Go.RowKit Go.BigFrame
set_option maxRecDepth 100000
set_option linter.unusedSimpArgs false
theorem conv_ownB (v : Value) (n B : Nat) (f : Nat → BitVec 8) (w : World) (h : Own B v n f w) : (convert 25 9 v).run Try.prog w = .ok (.string (strOf f n)) w := by
  rcases h.row.2 with ⟨rfl, rfl⟩ | hr
  · simp [convert, Sem.run_bind, run_underlying under_bytes, run_underlying (show Try.prog.underlying 9 = some .string by kernel_rfl)]
    rfl
  · by_cases h0 : n = 0
    · subst h0
      obtain ⟨g, cap, cur, rfl, _⟩ := hr
      exact conv_str _ g 0 0 cap w (fun j hj => by omega)
    · obtain ⟨g, cap, rfl, _, _, _, _, hc⟩ := own_slice (by omega) h.row
      exact conv_str _ g 0 n cap w (fun j hj => by rw [Nat.zero_add]; exact hc j hj)
set_option maxHeartbeats 8000000 in
theorem xorR_any (f g : Nat → BitVec 8) (n m : Nat) (w : World) (hnm : n ≤ m) (hn : n ≤ 100000000000000) :
    Calls Try.prog 45 #[.string (strOf f n), .string (strOf g m)] w fun e w' => e = .returned (.string (strOf (fun i => f i ^^^ g i) n)) ∧ Below w.heap.size w w' := by
  have hF := strOf_size f n
  have HX := Lib.hid (run_at_str f n)
  have HY := Lib.hid (run_at_str g m)
  generalize strOf f n = F at *
  generalize strOf g m = G at *
  go_enter Try.func45, Try.ntmps45
  go_wp2_with fail
  go_loopw [5, 6] (fun v5 v6 wr => ∃ i : Nat, i ≤ n ∧ v6 = .int .i64 (i : Int) ∧ Own w.heap.size v5 i (fun j => f j ^^^ g j) wr ∧ Below w.heap.size w wr)
    (fun _ v6 _ => n - (intOf v6).toNat)
  case atStart => exact ⟨0, by omega, rfl, Own.nil _ _ _ (Nat.le_refl _), Below.refl _ _⟩
  case round =>
    obtain ⟨i, hi, rfl, own, hb⟩ := hrel
    have OW := Lib.hid own
    have HB := Lib.hid hb
    clear own hb
    by_cases hin : i < n
    · have hinI : (i : Int) < (n : Int) := by omega
      have x1 := HX.out i hin
      have x2 := HY.out i (by omega)
      go_upto_region 5 with (fail)
      have O1 := Lib.hid ((OW.out.alloc (.cells #[.int .u8 (n8 (f i ^^^ g i))] 5)).later ((Below.refl _ _).drew))
      have S1 := Lib.hid (show Src Try.prog 1 25 (.slice (some ⟨wr.heap.size, 0, none⟩) 1 1) 1 (firsts (fun _ => f i ^^^ g i) 1) (wr.alloc (.cells #[.int .u8 (n8 (f i ^^^ g i))] 5)).drew from src_bytes (fun _ => f i ^^^ g i) wr.heap.size 0 1 1 _ (fun j hj => by
        show (wr.alloc _).cell? _ = _
        rw [cell_of_row _ _ _ _ _ _ (heap_alloc_last wr _)]
        obtain rfl : j = 0 := by omega
        rfl))
      have hi14 : i + 1 ≤ 200000000000000 := by omega
      go_region_held3 (fun _ => True) (first | trivial) (first | (refine step_append_bytes (o := ⟨some 22, _, _, _, _, _⟩) (by rfl) _ _ 25 (by rfl) (by rfl) (by rfl) O1.out S1.out hi14 ?_; intro v' w1 ho hg))
      all_goals (
        have ho2 := ho.congr (g := fun j => f j ^^^ g j) (fun j hj => by
          unfold joinb
          by_cases hji : j < i
          · rw [if_pos hji]
          · obtain rfl : j = i := by omega
            rw [if_neg hji])
        have hb4 := ((HB.out.alloc HB.out.size (.cells #[.int .u8 (n8 (f i ^^^ g i))] 5)).drew).trans (hg.below O1.out)
        go_wp2_with fail
        go_roundw
        case rel => exact ⟨i + 1, by omega, by go_num, ho2, hb4⟩
        case measure => simp [intOf]; omega)
    · obtain rfl : i = n := by omega
      have cv := conv_ownB u5 i _ _ wr OW.out
      go_wp2_with fail
      go_ret
      exact ⟨rfl, HB.out⟩
/-- A text filled up with noughts: how many blocks. -/
def blocksOf (n : Nat) : Nat := (n + 15) / 16
set_option maxHeartbeats 4000000 in
theorem wholeR_any (f : Nat → BitVec 8) (n : Nat) (w : World) (hn : n ≤ 100000000000000) :
    Calls Try.prog 47 #[.string (strOf f n)] w fun e w' => e = .returned (.string (strOf (padF f n) (16 * blocksOf n))) ∧ w = w' := by
  have e0 : strOf f n = strOf (padF f n) n := by
    unfold strOf strL
    congr 2
    exact List.map_congr_left (fun i hi => by rw [padF, if_pos (List.mem_range.1 hi)])
  rw [e0]
  obtain ⟨T, hT⟩ : ∃ T, strOf (padF f n) (16 * blocksOf n) = T := ⟨_, rfl⟩
  rw [hT]
  have HT := Lib.hid hT
  clear hT e0
  have JN := Lib.hid (fun k (hk : n ≤ k) => (show strOf (padF f n) k ++ ⟨#[0]⟩ = strOf (padF f n) (k + 1) from by
    have h := str_join (padF f n) (fun _ => 0#8) (padF f n) k 1 (fun _ _ => rfl) (fun i hi => by rw [padF, if_neg (by omega)])
    rw [← h]
    rfl))
  have SZ := Lib.hid (fun k => strOf_size (padF f n) k)
  go_enter Try.func47, Try.ntmps47
  go_wp2_with fail
  go_loopw [0] (fun v0 wr => ∃ k : Nat, n ≤ k ∧ k ≤ 16 * blocksOf n ∧ v0 = .string (strOf (padF f n) k) ∧ w = wr)
    (fun v0 _ => 16 * blocksOf n - (match v0 with | .string s => s.size | _ => 0))
  case atStart => exact ⟨n, Nat.le_refl _, by unfold blocksOf; omega, rfl, rfl⟩
  case round =>
    obtain ⟨k, hk1, hk2, rfl, rfl⟩ := hrel
    have hsz := SZ.out k
    have jn := JN.out k hk1
    have hkb : k ≤ 100000000000016 := by unfold blocksOf at hk2; omega
    by_cases h16 : k % 16 = 0
    · obtain rfl : k = 16 * blocksOf n := by unfold blocksOf at *; omega
      rw [HT.out] at *
      have e16 : ((16 * blocksOf n : Nat) : Int).tmod 16 = 0 := by rw [Int.tmod_eq_emod_of_nonneg (by omega)]; omega
      generalize 16 * blocksOf n = q at *
      clear jn
      go_wp2_with fail
      go_ret
      exact ⟨rfl, rfl⟩
    · have e16 : ¬ ((k : Int)).tmod 16 = 0 := by rw [Int.tmod_eq_emod_of_nonneg (by omega)]; omega
      have e16' : ((k : Int).tmod 16 == 0) = false := beq_eq_false_iff_ne.2 e16
      have hk3 : k + 1 ≤ 16 * blocksOf n := by unfold blocksOf at *; omega
      have hsz2 := SZ.out (k + 1)
      have hbig : ¬ 9223372036854775807 < k + 1 := by omega
      obtain ⟨S2, hS2⟩ : ∃ S2, strOf (padF f n) (k + 1) = S2 := ⟨_, rfl⟩
      have HS2 := Lib.hid hS2
      rw [hS2] at jn hsz2
      generalize hS : strOf (padF f n) k = S at *
      clear hS hS2
      go_wp2_with fail
      go_roundw
      case rel => exact ⟨k + 1, by omega, hk3, by rw [HS2.out], trivial⟩
      case measure => simp [hsz, hsz2]; omega
end Go.Proofs.Ytoocglckhphepaa
namespace Go.Proofs.Ytoocglckhphepaa
open Go Go.RowKit Go.BigFrame
set_option maxRecDepth 100000
set_option linter.unusedSimpArgs false
/-- A count's bytes. -/
def cntB (n i : Nat) : BitVec 8 := ((BitVec.ofNat 64 n * 8#64) >>> (56 - 8 * i)).setWidth 8
theorem cnt_val (n i : Nat) (hn : n ≤ 100000000000000) : (8 * (n : Int) / ((2 ^ (56 - 8 * i) : Nat) : Int)) % 256 = n8 (cntB n i) := by
  have e : (8 * (n : Int) / ((2 ^ (56 - 8 * i) : Nat) : Int)) = ((8 * n / 2 ^ (56 - 8 * i) : Nat) : Int) := by
    rw [Int.natCast_ediv]
    rfl
  rw [e, n8_nat]
  unfold cntB
  rw [BitVec.toNat_setWidth, BitVec.toNat_ushiftRight, BitVec.toNat_mul, BitVec.toNat_ofNat, Nat.shiftRight_eq_div_pow]
  have : n % 2 ^ 64 * (8#64).toNat % 2 ^ 64 = 8 * n := by
    rw [Nat.mod_eq_of_lt (by omega : n < 2 ^ 64)]
    show n * 8 % 2 ^ 64 = 8 * n
    rw [Nat.mod_eq_of_lt (by omega)]
    omega
  rw [this]
  generalize 8 * n / 2 ^ (56 - 8 * i) = m
  omega
theorem run_make8 (w : World) : (Instr.makeSlice 25 (.int .i64 8) (.int .i64 8)).run Try.prog w = .ok (.slice (some ⟨w.heap.size, 0, none⟩) 8 8) (w.alloc (.cells (bytesArr (fun _ => 0#8) 8) 5)) := run_make_bytes 8 (by omega) w
set_option maxHeartbeats 8000000 in
theorem countS_any (f : Nat → BitVec 8) (n : Nat) (w : World) (hn : n ≤ 100000000000000) :
    Calls Try.prog 48 #[.string (strOf f n)] w fun e w' => e = .returned (.string (strOf (cntB n) 8)) ∧ Below w.heap.size w w' := by
  have hF := strOf_size f n
  generalize strOf f n = F at *
  have CV := Lib.hid (fun i => cnt_val n i hn)
  generalize hC : cntB n = C at *
  have hn8 : (8 * (n : Int)) ≤ 800000000000000 := by omega
  clear hC
  go_enter Try.func48, Try.ntmps48
  have mk := run_make8
  go_wp2_with fail
  clear mk
  have hr0 : (w.alloc (.cells (bytesArr (fun _ => 0#8) 8) 5)).heap[w.heap.size]? = some (.cells (bytesArr (fun i => if i < 0 then C i else 0#8) 8) 5 (0, 0)) := by
    rw [heap_alloc_last]
    rfl
  have hb0 : Below w.heap.size w (w.alloc (.cells (bytesArr (fun _ => 0#8) 8) 5)) := (Below.refl _ _).alloc (Nat.le_refl _) _
  generalize World.alloc _ _ = wa at *
  generalize hq : w.heap.size = q at *
  have HQ := Lib.hid hq
  clear hq
  go_loopw [5] (fun v5 wr => ∃ i : Nat, i ≤ 8 ∧ v5 = .int .i64 (i : Int) ∧ wr.heap[q]? = some (.cells (bytesArr (fun j => if j < i then C j else 0#8) 8) 5 (0, 0)) ∧ Below q w wr)
    (fun v5 _ => 8 - (intOf v5).toNat)
  case atStart => exact ⟨0, by omega, rfl, hr0, hb0⟩
  case round =>
    clear hr0 hb0
    obtain ⟨i, hi, rfl, row, hb⟩ := hrel
    by_cases hi8 : i < 8
    · have c1 := frozen_of_row wr q i _ _ row
      have c2 : wr.cell? ⟨q, i, none⟩ = some (.int .u8 (n8 0#8)) := by
        rw [cell_of_row _ _ _ _ _ _ row, bytesArr_get _ _ _ hi8, if_neg (Nat.lt_irrefl _)]
      have fin : ∀ x, x = n8 (C i) → (wr.setCell ⟨q, i, none⟩ (.int .u8 x)).heap[q]? = some (.cells (bytesArr (fun j => if j < i + 1 then C j else 0#8) 8) 5 (0, 0)) := fun x hx => by
        rw [hx, heap_setCell_same _ _ _ _ _ _ row, bytesArr_set]
        congr 2
        refine bytesArr_congr _ _ _ (fun j hj => ?_)
        unfold updb
        by_cases e : j = i
        · subst e; rw [if_pos rfl, if_pos (by omega)]
        · rw [if_neg e]
          dsimp only
          by_cases e2 : j < i
          · rw [if_pos e2, if_pos (by omega)]
          · rw [if_neg e2, if_neg (by omega)]
      have FIN := Lib.hid fin
      have cv := CV.out i
      have CV1 := Lib.hid cv
      clear fin cv row
      rcases (by omega : i = 0 ∨ i = 1 ∨ i = 2 ∨ i = 3 ∨ i = 4 ∨ i = 5 ∨ i = 6 ∨ i = 7) with rfl | rfl | rfl | rfl | rfl | rfl | rfl | rfl
      · go_wp2_with fail
        go_roundw
        case rel =>
          have h1 : (8 * (n : Int) / 72057594037927936) % 256 = n8 (C 0) := CV1.out
          exact ⟨1, by omega, rfl, FIN.out _ (by first | exact h1 | omega), hb.setCell (Nat.le_refl q) _⟩
        case measure => simp [intOf]
      · go_wp2_with fail
        go_roundw
        case rel =>
          have h1 : (8 * (n : Int) / 281474976710656) % 256 = n8 (C 1) := CV1.out
          exact ⟨2, by omega, rfl, FIN.out _ (by first | exact h1 | omega), hb.setCell (Nat.le_refl q) _⟩
        case measure => simp [intOf]
      · go_wp2_with fail
        go_roundw
        case rel =>
          have h1 : (8 * (n : Int) / 1099511627776) % 256 = n8 (C 2) := CV1.out
          exact ⟨3, by omega, rfl, FIN.out _ (by first | exact h1 | omega), hb.setCell (Nat.le_refl q) _⟩
        case measure => simp [intOf]
      · go_wp2_with fail
        go_roundw
        case rel =>
          have h1 : (8 * (n : Int) / 4294967296) % 256 = n8 (C 3) := CV1.out
          exact ⟨4, by omega, rfl, FIN.out _ (by first | exact h1 | omega), hb.setCell (Nat.le_refl q) _⟩
        case measure => simp [intOf]
      · go_wp2_with fail
        go_roundw
        case rel =>
          have h1 : (8 * (n : Int) / 16777216) % 256 = n8 (C 4) := CV1.out
          exact ⟨5, by omega, rfl, FIN.out _ (by first | exact h1 | omega), hb.setCell (Nat.le_refl q) _⟩
        case measure => simp [intOf]
      · go_wp2_with fail
        go_roundw
        case rel =>
          have h1 : (8 * (n : Int) / 65536) % 256 = n8 (C 5) := CV1.out
          exact ⟨6, by omega, rfl, FIN.out _ (by first | exact h1 | omega), hb.setCell (Nat.le_refl q) _⟩
        case measure => simp [intOf]
      · go_wp2_with fail
        go_roundw
        case rel =>
          have h1 : (8 * (n : Int) / 256) % 256 = n8 (C 6) := CV1.out
          exact ⟨7, by omega, rfl, FIN.out _ (by first | exact h1 | omega), hb.setCell (Nat.le_refl q) _⟩
        case measure => simp [intOf]
      · go_wp2_with fail
        go_roundw
        case rel =>
          have h1 : (8 * (n : Int) / 1) % 256 = n8 (C 7) := CV1.out
          exact ⟨8, by omega, rfl, FIN.out _ (by first | exact h1 | omega), hb.setCell (Nat.le_refl q) _⟩
        case measure => simp [intOf]
    · obtain rfl : i = 8 := by omega
      have cv := conv_str C q 0 8 8 wr (fun i hi => by rw [cell_of_row _ _ _ _ _ _ row, Nat.zero_add, bytesArr_get _ _ _ hi, if_pos hi])
      go_wp2_with fail
      go_ret
      exact ⟨rfl, by rw [HQ.out]; exact hb⟩
end Go.Proofs.Ytoocglckhphepaa
namespace Go.Proofs.Ytoocglckhphepaa
open Go Go.RowKit Go.BigFrame
set_option maxRecDepth 100000
set_option linter.unusedSimpArgs false
set_option maxHeartbeats 8000000 in
theorem sumR_any (h s : Nat → BitVec 8) (k : Nat) (w : World) (hk : k ≤ 100000000000000) :
    Calls Try.prog 46 #[.string (strOf h 16), .string (strOf s (16 * k))] w fun e w' => e = .returned (.string (strOf (sumK (W2.of h) ⟨0#64, 0#64⟩ s k).byte 16)) ∧ Below w.heap.size w w' := by
  have hS := strOf_size s (16 * k)
  have EX : ∀ i, i < k → (strOf s (16 * k)).extract (16 * i) (16 * i + 16) = strOf (fun j => s (16 * i + j)) 16 := fun i hi => by
    rw [str_cut s (16 * i) (16 * i + 16) (16 * k) (by omega) (by omega)]
    congr 1
    omega
  have z0 : strOf (fun _ => 0#8) 16 = strOf (sumK (W2.of h) ⟨0#64, 0#64⟩ s 0).byte 16 := by
    have h : strOf (fun _ => 0#8) 16 = strOf (W2.mk 0#64 0#64).byte 16 := by decide
    exact h
  have XR : ∀ (i : Nat) (hi : i < k) (w' : World), Calls Try.prog 45 #[.string (strOf (sumK (W2.of h) ⟨0#64, 0#64⟩ s i).byte 16), .string ((strOf s (16 * k)).extract (16 * i) (16 * i + 16))] w' fun e w'' => e = .returned (.string (strOf (fun j => (sumK (W2.of h) ⟨0#64, 0#64⟩ s i).byte j ^^^ s (16 * i + j)) 16)) ∧ Below w'.heap.size w' w'' := fun i hi w' => by
    rw [EX i hi]
    exact xorR_any (sumK (W2.of h) ⟨0#64, 0#64⟩ s i).byte (fun j => s (16 * i + j)) 16 16 w' (Nat.le_refl _) (by omega)
  have XR := Lib.hid XR
  have TR := Lib.hid (fun (i : Nat) (w' : World) => timesR2_any (fun j => (sumK (W2.of h) ⟨0#64, 0#64⟩ s i).byte j ^^^ s (16 * i + j)) h w')
  have SK : ∀ i, W2.mul (W2.of (fun j => (sumK (W2.of h) ⟨0#64, 0#64⟩ s i).byte j ^^^ s (16 * i + j))) (W2.of h) = sumK (W2.of h) ⟨0#64, 0#64⟩ s (i + 1) := fun i => by
    rw [of_xor (sumK (W2.of h) ⟨0#64, 0#64⟩ s i).byte (fun j => s (16 * i + j)), w2_of_byte]
    rfl
  simp only [SK] at TR
  generalize hU : (fun i => strOf (sumK (W2.of h) ⟨0#64, 0#64⟩ s i).byte 16) = U at *
  have eU : ∀ i, strOf (sumK (W2.of h) ⟨0#64, 0#64⟩ s i).byte 16 = U i := fun i => by rw [← hU]
  simp only [eU] at XR TR z0 ⊢
  generalize strOf h 16 = H at *
  generalize strOf s (16 * k) = S at *
  have ZC := Lib.hid (fun (w' : World) (q : Nat) (hq : w'.heap[q]? = some (.cells (bytesArr (fun _ => 0#8) 16) 5 (0, 0))) => conv_str (fun _ => 0#8) q 0 16 16 w' (fun i hi => by rw [cell_of_row _ _ _ _ _ _ hq, Nat.zero_add]; exact bytesArr_get _ _ _ hi))
  rw [z0] at ZC
  clear hU eU SK z0 EX
  go_enter Try.func46, Try.ntmps46
  have mk := run_make16
  have zc := ZC.out (w.alloc (.cells (bytesArr (fun _ => 0#8) 16) 5)) w.heap.size (heap_alloc_last _ _)
  go_wp2_with fail
  clear mk zc ZC
  have hb0 : Below w.heap.size w (w.alloc (.cells (bytesArr (fun _ => 0#8) 16) 5)) := (Below.refl _ _).alloc (Nat.le_refl _) _
  generalize World.alloc _ _ = wa at *
  go_loopw [5, 6] (fun v5 v6 wr => ∃ i : Nat, i ≤ k ∧ v6 = .int .i64 ((16 * i : Nat) : Int) ∧ v5 = .string (U i) ∧ Below w.heap.size w wr)
    (fun _ v6 _ => 16 * k - (intOf v6).toNat)
  case atStart => exact ⟨0, by omega, rfl, rfl, hb0⟩
  case round =>
    clear hb0
    obtain ⟨i, hi, rfl, rfl, hb⟩ := hrel
    have HB := Lib.hid hb
    clear hb
    by_cases hik : i < k
    · have hikI : ((16 * i : Nat) : Int) < ((16 * k : Nat) : Int) := by omega
      go_wp2_with fail
      with_reducible refine (XR.out i hik _).mono ?_
      rintro e w1 ⟨rfl, hb1⟩
      go_wp2_with fail
      with_reducible refine (TR.out i _).mono ?_
      rintro e w2 ⟨rfl, hb2⟩
      have HB2 := Lib.hid ((HB.out.trans (hb1.mono HB.out.size)).trans (hb2.mono (Nat.le_trans HB.out.size hb1.size)))
      clear hb1 hb2
      go_wp2_with fail
      go_roundw
      case rel => exact ⟨i + 1, by omega, by go_num, rfl, HB2.out⟩
      case measure => simp [intOf]; omega
    · obtain rfl : i = k := by omega
      go_wp2_with fail
      go_ret
      exact ⟨rfl, HB.out⟩
end Go.Proofs.Ytoocglckhphepaa
