/-
  THE DOCUMENT'S ANSWER FOR field, FOURTH PART: Of, Add, Sub, Mul, Inv as numbers.
-/
import Derived.Test.YtmfiabkhnoimhaaFieldRefC
namespace Go.Proofs.Ytmfiabkhnoimhaa
open Go Go.RowKit Go.BigFrame
set_option linter.unusedVariables false
theorem digits_num (m : Nat) (w : World) :
    Calls Try.prog 36 #[.string (numS m)] w fun e w' => e = .returned (.slice (some ⟨w.heap.size, 0, none⟩) 32 32) ∧ Below w.heap.size w w' ∧ w'.heap[w.heap.size]? = some (.cells (dC (RefF.digs m) 32) 3 (0, 0)) := by
  have h := digits_any (fun i => BitVec.ofNat 8 (m / 256 ^ i)) w
  have e : bD (fun i => BitVec.ofNat 8 (m / 256 ^ i)) = RefF.digs m := by
    funext i
    unfold bD RefF.digs
    rw [n8_nat, BitVec.toNat_ofNat]
  rw [e] at h
  exact h
theorem digs_sum (m : Nat) (h : m < 2 ^ 256) : RefF.sumD (RefF.digs m) 32 = (m : Int) := by
  rw [RefF.sum_digs, Nat.mod_eq_of_lt]
  have : (256 : Nat) ^ 32 = 2 ^ 256 := by decide
  rw [this]; exact h
/-- The digits of one below a place, of another from it on. -/
def upTo (h g : Nat → Int) (i j : Nat) : Int := if j < i then h j else g j
theorem upTo_at (h g : Nat → Int) (i : Nat) : upTo h g i i = g i := if_neg (by omega)
theorem upTo_zero (h g : Nat → Int) (M : Nat) : dC (upTo h g 0) M = dC g M := dC_congr _ _ _ (fun i _ => if_neg (by omega))
theorem upTo_all (h g : Nat → Int) (M : Nat) : dC (upTo h g M) M = dC h M := dC_congr _ _ _ (fun i hi => if_pos hi)
theorem upTo_set (h g : Nat → Int) (i M : Nat) (v : Int) (hv : h i = v) : dC (fun j => if j = i then v else upTo h g i j) M = dC (upTo h g (i + 1)) M := by
  refine dC_congr _ _ _ (fun j _ => ?_)
  unfold upTo
  by_cases e : j = i
  · rw [if_pos e, if_pos (by omega), e, hv]
  · rw [if_neg e]
    by_cases e2 : j < i
    · rw [if_pos e2, if_pos (by omega)]
    · rw [if_neg e2, if_neg (by omega)]
theorem sum_num (f : Nat → BitVec 8) (n : Nat) : RefF.sumD (bD f) n = (E5.num f n : Int) := by
  induction n with
  | zero => rfl
  | succ n ih =>
    simp only [RefF.sumD, E5.num]
    rw [ih, Int.natCast_add, Int.natCast_mul, RefF.pow_cast]
    unfold bD
    rw [n8_nat]
theorem num_top (f : Nat → BitVec 8) : ((E5.num f 31 : Nat) : Int) + ((f 31).toNat : Int) % 128 * 256 ^ 31 = ((E5.num f 32 % 2 ^ 255 : Nat) : Int) := by
  have h1 := E5.num_lt f 31
  have h2 : E5.num f 32 = E5.num f 31 + (f 31).toNat * 256 ^ 31 := rfl
  have e : (256 : Nat) ^ 31 = 2 ^ 248 := by decide
  have e2 : (256 : Int) ^ 31 = 2 ^ 248 := by decide
  rw [e] at h1 h2
  rw [h2, e2]
  omega
theorem make_ints64 (w : World) : (Instr.makeSlice 61 (.int .i64 64) (.int .i64 64)).run Try.prog w = .ok (.slice (some ⟨w.heap.size, 0, none⟩) 64 64) (w.alloc (.cells (dC (fun _ => 0) 64) 3)) := by kernel_rfl
/-- Of. -/
theorem refOf_any (f : Nat → BitVec 8) (w : World) :
    Calls Try.prog 22 #[.string (strOf f 32)] w fun e w' => e = .returned (.string (numS (E5.num f 32 % 2 ^ 255 % E5.p))) ∧ Below w.heap.size w w' := by
  go_enter Try.func22, Try.ntmps22
  go_wp2_with fail
  refine (digits_any f _).mono ?_
  rintro e w1 ⟨rfl, hb1, r1⟩
  generalize hA : w.heap.size = A at *
  have k0 : w1.cell? ⟨A, 31, none⟩ = some (.int .i64 (bD f 31)) := by rw [cell_of_row _ _ _ _ _ _ r1]; exact dC_get _ 32 31 (by omega)
  have kf : w1.frozen? ⟨A, 31, none⟩ = false := frozen_of_row _ _ _ _ _ r1
  have b0 : 0 ≤ bD f 31 ∧ bD f 31 ≤ 255 := ⟨n8_nonneg _, n8_le _⟩
  go_wp2_with fail
  have q := heap_setCell_same w1 A 31 _ 3 (.int .i64 (bD f 31 % 128)) r1
  rw [dC_set] at q
  have hb2 : Below A w (w1.setCell ⟨A, 31, none⟩ (.int .i64 (bD f 31 % 128))) := hb1.setCell (Nat.le_refl _) _
  refine (below_any _ A 32 32 _ (by omega) q (fun i => ?_) (E5.num f 32 % 2 ^ 255) ?_ (by omega)).mono ?_
  · have := n8_nonneg (f i); have := n8_le (f i)
    show _ ≤ (if i = 31 then bD f 31 % 128 else bD f i) ∧ (if i = 31 then bD f 31 % 128 else bD f i) ≤ _
    split
    · omega
    · unfold bD; omega
  · rw [← num_top, show RefF.sumD (fun i => if i = 31 then bD f 31 % 128 else bD f i) 32 = RefF.sumD (fun i => if i = 31 then bD f 31 % 128 else bD f i) 31 + (if 31 = 31 then bD f 31 % 128 else bD f 31) * 256 ^ 31 from rfl, if_pos rfl,
      RefF.sumD_congr _ (bD f) 31 (fun i hi => if_neg (by omega)), sum_num]
    unfold bD
    rw [n8_nat]
  · rintro e w2 ⟨rfl, hb3⟩
    go_wp2_with fail
    go_ret
    exact ⟨rfl, by rw [hA]; exact hb2.trans hb3⟩
set_option maxHeartbeats 1000000 in
/-- Add. -/
theorem refAdd_any (a b : Nat) (ha : a < 2 ^ 256) (hb : b < 2 ^ 256) (w : World) :
    Calls Try.prog 24 #[.string (numS a), .string (numS b)] w fun e w' => e = .returned (.string (numS ((a + b) % E5.p))) ∧ Below w.heap.size w w' := by
  have HS := Lib.hid (RefF.add_nat (RefF.digs_range a) (RefF.digs_range b) (digs_sum a ha) (digs_sum b hb))
  clear ha hb
  go_enter Try.func24, Try.ntmps24
  go_wp2_with fail
  refine (digits_num a _).mono ?_
  rintro e w1 ⟨rfl, hb1, r1⟩
  go_wp2_with fail
  refine (digits_num b _).mono ?_
  rintro e w2 ⟨rfl, hb2, r2⟩
  have lA := lt_of_heap r1
  have r1' := (hb2.block _ lA).trans r1
  have bel := hb1.trans (hb2.mono (Nat.le_of_lt lA))
  clear hb1 hb2 r1
  generalize w1.heap.size = B at *
  generalize hA : w.heap.size = A at *
  clear w1
  have HX := Lib.hid (RefF.digs_range a); have HY := Lib.hid (RefF.digs_range b)
  generalize RefF.digs a = x at *
  generalize RefF.digs b = y at *
  have hBA : B ≠ A := by omega
  go_wp2_with fail
  go_loopw [7] (fun s wq => ∃ i : Nat, i ≤ 32 ∧ s = .int .i64 (i : Int) ∧ wq.heap[A]? = some (.cells (dC (upTo (fun i => x i + y i) x i) 32) 3 (0, 0)) ∧ wq.heap[B]? = some (.cells (dC y 32) 3 (0, 0)) ∧ Below A w wq) (fun s _ => 32 - (intOf s).toNat)
  case atStart => exact ⟨0, by omega, rfl, by rw [upTo_zero]; exact r1', r2, bel⟩
  case round =>
    clear bel r1' r2
    obtain ⟨i, hi, rfl, qa, qb, bel⟩ := hrel
    by_cases hlt : i < 32
    · have x0 := HX.out i; have y0 := HY.out i
      have ka : wr.cell? ⟨A, i, none⟩ = some (.int .i64 (x i)) := by rw [cell_of_row _ _ _ _ _ _ qa, dC_get _ 32 i hlt, upTo_at]
      have kb : wr.cell? ⟨B, i, none⟩ = some (.int .i64 (y i)) := by rw [cell_of_row _ _ _ _ _ _ qb, dC_get _ 32 i hlt]
      have kf : wr.frozen? ⟨A, i, none⟩ = false := frozen_of_row _ _ _ _ _ qa
      go_wp2_with fail
      go_region
      go_wp2_with fail
      go_roundw
      case rel =>
        refine ⟨i + 1, by omega, by go_num, ?_, Eq.trans (heap_setCell_other _ _ _ _ hBA) qb, ?_⟩
        · refine Eq.trans (heap_setCell_same _ A i _ 3 _ qa) ?_
          rw [dC_set]; exact congrArg (fun c => some (Obj.cells c _ (0, 0))) (upTo_set _ _ _ _ _ rfl)
        · first | exact (Below.setCell bel (Nat.le_refl _) _) | exact (Below.setCell bel (Nat.le_refl _) _).drew
      case measure => (simp [intOf] <;> omega)
    · obtain rfl : i = 32 := by omega
      rw [upTo_all] at qa
      go_wp2_with fail
      refine (below_any _ A 32 32 _ (by omega) qa (fun i => by have := HX.out i; have := HY.out i; show _ ≤ x i + y i ∧ x i + y i ≤ _; omega) (a + b) HS.out.1 HS.out.2).mono ?_
      rintro e w3 ⟨rfl, hb3⟩
      go_wp2_with fail
      go_ret
      exact ⟨rfl, by rw [hA]; exact bel.trans hb3⟩
set_option maxHeartbeats 1000000 in
/-- Sub. -/
theorem refSub_any (a b : Nat) (ha : a < 2 ^ 256) (hb : b ≤ E5.p) (w : World) :
    Calls Try.prog 25 #[.string (numS a), .string (numS b)] w fun e w' => e = .returned (.string (numS ((a + E5.p - b) % E5.p))) ∧ Below w.heap.size w w' := by
  have hb0 : b ≤ 2 ^ 255 - 19 := hb
  have HS := Lib.hid (RefF.sub_nat (RefF.digs_range a) (digs_sum a ha) (digs_sum b (by omega)) hb)
  clear ha hb hb0
  go_enter Try.func25, Try.ntmps25
  go_wp2_with fail
  refine (digits_num a _).mono ?_
  rintro e w1 ⟨rfl, hb1, r1⟩
  go_wp2_with fail
  refine (digits_num b _).mono ?_
  rintro e w2 ⟨rfl, hb2, r2⟩
  go_wp2_with fail
  refine (prime_any _).mono ?_
  rintro e w3 ⟨rfl, hb3, r3⟩
  have lA := lt_of_heap r1
  have lB := lt_of_heap r2
  have r1' := (hb3.block _ (Nat.lt_trans lA lB)).trans ((hb2.block _ lA).trans r1)
  have r2' := (hb3.block _ lB).trans r2
  have bel := (hb1.trans (hb2.mono (Nat.le_of_lt lA))).trans (hb3.mono (Nat.le_of_lt (Nat.lt_trans lA lB)))
  clear hb1 hb2 hb3 r1 r2
  generalize w2.heap.size = C at *
  generalize w1.heap.size = B at *
  generalize hA : w.heap.size = A at *
  clear w1 w2
  have HX := Lib.hid (RefF.digs_range a); have HY := Lib.hid (RefF.digs_range b)
  generalize RefF.digs a = x at *
  generalize RefF.digs b = y at *
  have hBA : B ≠ A := by omega
  have hCA : C ≠ A := by omega
  go_wp2_with fail
  go_loopw [8] (fun s wq => ∃ i : Nat, i ≤ 32 ∧ s = .int .i64 (i : Int) ∧ wq.heap[A]? = some (.cells (dC (upTo (fun i => x i + RefF.pD i - y i) x i) 32) 3 (0, 0)) ∧ wq.heap[B]? = some (.cells (dC y 32) 3 (0, 0)) ∧ wq.heap[C]? = some (.cells (dC RefF.pD 32) 3 (0, 0)) ∧ Below A w wq) (fun s _ => 32 - (intOf s).toNat)
  case atStart => exact ⟨0, by omega, rfl, by rw [upTo_zero]; exact r1', r2', r3, bel⟩
  case round =>
    clear bel r1' r2' r3
    obtain ⟨i, hi, rfl, qa, qb, qc, bel⟩ := hrel
    by_cases hlt : i < 32
    · have x0 := HX.out i; have y0 := HY.out i; have p0 := RefF.pD_range i
      have ka : wr.cell? ⟨A, i, none⟩ = some (.int .i64 (x i)) := by rw [cell_of_row _ _ _ _ _ _ qa, dC_get _ 32 i hlt, upTo_at]
      have kb : wr.cell? ⟨B, i, none⟩ = some (.int .i64 (y i)) := by rw [cell_of_row _ _ _ _ _ _ qb, dC_get _ 32 i hlt]
      have kc : wr.cell? ⟨C, i, none⟩ = some (.int .i64 (RefF.pD i)) := by rw [cell_of_row _ _ _ _ _ _ qc, dC_get _ 32 i hlt]
      have kf : wr.frozen? ⟨A, i, none⟩ = false := frozen_of_row _ _ _ _ _ qa
      go_wp2_with fail
      go_region
      go_wp2_with fail
      go_roundw
      case rel =>
        refine ⟨i + 1, by omega, by go_num, ?_, Eq.trans (heap_setCell_other _ _ _ _ hBA) qb, Eq.trans (heap_setCell_other _ _ _ _ hCA) qc, ?_⟩
        · refine Eq.trans (heap_setCell_same _ A i _ 3 _ qa) ?_
          rw [dC_set]; exact congrArg (fun c => some (Obj.cells c _ (0, 0))) (upTo_set _ _ _ _ _ rfl)
        · first | exact (Below.setCell bel (Nat.le_refl _) _) | exact (Below.setCell bel (Nat.le_refl _) _).drew
      case measure => (simp [intOf] <;> omega)
    · obtain rfl : i = 32 := by omega
      rw [upTo_all] at qa
      go_wp2_with fail
      refine (below_any _ A 32 32 _ (by omega) qa (fun i => by have := HX.out i; have := HY.out i; have := RefF.pD_range i; show _ ≤ x i + RefF.pD i - y i ∧ x i + RefF.pD i - y i ≤ _; omega) (a + E5.p - b) HS.out.1 HS.out.2).mono ?_
      rintro e w3 ⟨rfl, hb3⟩
      go_wp2_with fail
      go_ret
      exact ⟨rfl, by rw [hA]; exact bel.trans hb3⟩
set_option maxHeartbeats 2000000 in
/-- Mul. -/
theorem refMul_any (a b : Nat) (ha : a < 2 ^ 256) (hb : b < 2 ^ 256) (w : World) :
    Calls Try.prog 26 #[.string (numS a), .string (numS b)] w fun e w' => e = .returned (.string (numS (a * b % E5.p))) ∧ Below w.heap.size w w' := by
  obtain ⟨N, hN1, hN2, hN3⟩ := RefF.prodF_nat (RefF.digs_range a) (RefF.digs_range b) (digs_sum a ha) (digs_sum b hb)
  have HN := Lib.hid hN1
  clear ha hb hN1
  have mk := make_ints64
  go_enter Try.func26, Try.ntmps26
  go_wp2_with fail
  refine (digits_num a _).mono ?_
  rintro e w1 ⟨rfl, hb1, r1⟩
  go_wp2_with fail
  refine (digits_num b _).mono ?_
  rintro e w2 ⟨rfl, hb2, r2⟩
  have lA := lt_of_heap r1
  have lB := lt_of_heap r2
  have r1' := (hb2.block _ lA).trans r1
  have bel := hb1.trans (hb2.mono (Nat.le_of_lt lA))
  clear hb1 hb2 r1
  generalize w1.heap.size = B at *
  generalize hA : w.heap.size = A at *
  clear w1
  have HX := Lib.hid (RefF.digs_range a); have HY := Lib.hid (RefF.digs_range b)
  generalize RefF.digs a = x at *
  generalize RefF.digs b = y at *
  go_wp2_with fail
  have bel' : Below A w (w2.alloc (.cells (dC (fun _ => 0) 64) 3)) := bel.alloc (by omega) _
  have r3 : (w2.alloc (.cells (dC (fun _ => 0) 64) 3)).heap[w2.heap.size]? = some (.cells (dC (RefF.prodTo x y 0) 64) 3 (0, 0)) := heap_alloc_last _ _
  have r1 : (w2.alloc (.cells (dC (fun _ => 0) 64) 3)).heap[A]? = some (.cells (dC x 32) 3 (0, 0)) := Eq.trans (by show (w2.heap.push _)[A]? = w2.heap[A]?; rw [Array.getElem?_push, if_neg (by omega)]) r1'
  have r2' : (w2.alloc (.cells (dC (fun _ => 0) 64) 3)).heap[B]? = some (.cells (dC y 32) 3 (0, 0)) := Eq.trans (by show (w2.heap.push _)[B]? = w2.heap[B]?; rw [Array.getElem?_push, if_neg (by omega)]) r2
  clear bel r1' r2
  generalize hC : w2.heap.size = C at *
  generalize hW : w2.alloc _ = wa at *
  clear hW hC mk w2
  have hAC : A ≠ C := by omega
  have hBC : B ≠ C := by omega
  have lC : A ≤ C := by omega
  go_loopw [8] (fun s wq => ∃ i : Nat, i ≤ 32 ∧ s = .int .i64 (i : Int) ∧ wq.heap[A]? = some (.cells (dC x 32) 3 (0, 0)) ∧ wq.heap[B]? = some (.cells (dC y 32) 3 (0, 0)) ∧ wq.heap[C]? = some (.cells (dC (RefF.prodTo x y i) 64) 3 (0, 0)) ∧ Below A w wq) (fun s _ => 32 - (intOf s).toNat)
  case atStart => exact ⟨0, by omega, rfl, r1, r2', r3, bel'⟩
  case round =>
    clear bel' r1 r2' r3
    obtain ⟨i, hi, rfl, qa, qb, qc, bel⟩ := hrel
    by_cases hlt : i < 32
    · obtain ⟨wo, rfl⟩ : ∃ wo : World, wo = wr := ⟨_, rfl⟩
      have x0 := HX.out i
      have HP := Lib.hid (RefF.prodTo_range HX.out HY.out i)
      go_wp2_with fail
      go_loopw [9] (fun s wq => ∃ k : Nat, k ≤ 32 ∧ s = .int .i64 (k : Int) ∧ wq.heap[A]? = some (.cells (dC x 32) 3 (0, 0)) ∧ wq.heap[B]? = some (.cells (dC y 32) 3 (0, 0)) ∧ wq.heap[C]? = some (.cells (dC (RefF.rowTo x y (RefF.prodTo x y i) i k) 64) 3 (0, 0)) ∧ Below A w wq) (fun s _ => 32 - (intOf s).toNat)
      case atStart => exact ⟨0, by omega, rfl, qa, qb, by rw [dC_congr _ _ 64 (fun j _ => RefF.rowTo_zero x y (RefF.prodTo x y i) i j)]; exact qc, bel⟩
      case round =>
        clear qa qb qc bel
        obtain ⟨k, hk, rfl, qa, qb, qc, bel⟩ := hrel
        by_cases hl2 : k < 32
        · have y0 := HY.out k
          have m0 := RefF.mul_range x0 y0
          have p0 := RefF.rowTo_range HX.out HY.out HP.out i k (i + k)
          have ka : wr.cell? ⟨A, i, none⟩ = some (.int .i64 (x i)) := by rw [cell_of_row _ _ _ _ _ _ qa, dC_get _ 32 i hlt]
          have kb : wr.cell? ⟨B, k, none⟩ = some (.int .i64 (y k)) := by rw [cell_of_row _ _ _ _ _ _ qb, dC_get _ 32 k hl2]
          have kc : wr.cell? ⟨C, i + k, none⟩ = some (.int .i64 (RefF.rowTo x y (RefF.prodTo x y i) i k (i + k))) := by rw [cell_of_row _ _ _ _ _ _ qc, dC_get _ 64 (i + k) (by omega)]
          have kf : wr.frozen? ⟨C, i + k, none⟩ = false := frozen_of_row _ _ _ _ _ qc
          go_wp2_with fail
          go_region
          go_wp2_with fail
          go_roundw
          case rel =>
            refine ⟨k + 1, by omega, by go_num, Eq.trans (heap_setCell_other _ _ _ _ hAC) qa, Eq.trans (heap_setCell_other _ _ _ _ hBC) qb, ?_, ?_⟩
            · refine Eq.trans (heap_setCell_same _ C (i + k) _ 3 _ qc) ?_
              rw [dC_set]
              exact congrArg (fun c => some (Obj.cells c _ (0, 0))) (dC_congr _ _ 64 (fun j _ => by
                rw [RefF.rowTo_succ]
                by_cases h : j = i + k
                · rw [if_pos h, if_pos h, h]
                · rw [if_neg h, if_neg h]))
            · first | exact (Below.setCell bel lC _) | exact (Below.setCell bel lC _).drew
          case measure => (simp [intOf] <;> omega)
        · obtain rfl : k = 32 := by omega
          go_wp2_with fail
          go_roundw
          case rel => exact ⟨i + 1, by omega, by go_num, qa, qb, qc, bel⟩
          case measure => (simp [intOf] <;> omega)
    · obtain rfl : i = 32 := by omega
      obtain ⟨wo, rfl⟩ : ∃ wo : World, wo = wr := ⟨_, rfl⟩
      have HP := Lib.hid (RefF.prodTo_range HX.out HY.out 32)
      clear qa qb
      go_wp2_with fail
      go_loopw [10] (fun s wq => ∃ i : Nat, i ≤ 32 ∧ s = .int .i64 (i : Int) ∧ wq.heap[C]? = some (.cells (dC (upTo (RefF.prodF x y) (RefF.prodTo x y 32) i) 64) 3 (0, 0)) ∧ Below A w wq) (fun s _ => 32 - (intOf s).toNat)
      case atStart => exact ⟨0, by omega, rfl, by rw [upTo_zero]; exact qc, bel⟩
      case round =>
        clear qc bel
        obtain ⟨i, hi, rfl, qc, bel⟩ := hrel
        by_cases hl2 : i < 32
        · have p0 := HP.out i
          have p1 := HP.out (i + 32)
          have kc : wr.cell? ⟨C, i, none⟩ = some (.int .i64 (RefF.prodTo x y 32 i)) := by rw [cell_of_row _ _ _ _ _ _ qc, dC_get _ 64 i (by omega), upTo_at]
          have kd : wr.cell? ⟨C, i + 32, none⟩ = some (.int .i64 (RefF.prodTo x y 32 (i + 32))) := by rw [cell_of_row _ _ _ _ _ _ qc, dC_get _ 64 (i + 32) (by omega)]; unfold upTo; rw [if_neg (by omega)]
          have kf : wr.frozen? ⟨C, i, none⟩ = false := frozen_of_row _ _ _ _ _ qc
          go_wp2_with fail
          go_region
          go_wp2_with fail
          go_roundw
          case rel =>
            refine ⟨i + 1, by omega, by go_num, ?_, ?_⟩
            · refine Eq.trans (heap_setCell_same _ C i _ 3 _ qc) ?_
              rw [dC_set]; exact congrArg (fun c => some (Obj.cells c _ (0, 0))) (upTo_set _ _ _ _ _ rfl)
            · first | exact (Below.setCell bel lC _) | exact (Below.setCell bel lC _).drew
          case measure => (simp [intOf] <;> omega)
        · obtain rfl : i = 32 := by omega
          go_wp2_with fail
          refine (below_any _ C 64 64 _ (by omega) qc (fun i => ?_) N ?_ hN2).mono ?_
          · have := HP.out i; have := HP.out (i + 32)
            unfold upTo RefF.prodF
            split <;> omega
          · rw [← HN.out]; exact RefF.sumD_congr _ _ 32 (fun i hi => if_pos hi)
          · rintro e w3 ⟨rfl, hb3⟩
            go_wp2_with fail
            go_ret
            refine ⟨?_, by rw [hA]; exact bel.trans (hb3.mono lC)⟩
            exact congrArg (fun n => Ending.returned (.string (numS n))) hN3
end Go.Proofs.Ytmfiabkhnoimhaa
