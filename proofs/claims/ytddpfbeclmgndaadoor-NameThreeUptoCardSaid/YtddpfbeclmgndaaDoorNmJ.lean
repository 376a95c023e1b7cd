/-
  name: the last dot; a text without its highest part, and that part.
-/
import Derived.Test.YtddpfbeclmgndaaDoorNmI
namespace Go.Proofs.YtddpfbeclmgndaaDoor
open Go Go.RowKit Go.BigFrame
set_option linter.unusedSimpArgs false
set_option linter.unusedVariables false
/-- The last dot among the first k. -/
def lastTo (L : List (BitVec 8)) : Nat → Option Nat
  | 0 => none
  | k + 1 => if bx L k = 46#8 then some k else lastTo L k
def lastI (L : List (BitVec 8)) : Int := match lastTo L L.length with | none => -1 | some k => (k : Int)
theorem lastTo_lt {L : List (BitVec 8)} {n k : Nat} (h : lastTo L n = some k) : k < n := by
  induction n with
  | zero => cases h
  | succ n ih =>
    unfold lastTo at h
    split at h
    · cases h; omega
    · have := ih h; omega
theorem n8_dot (c : BitVec 8) : (n8 c == 46) = decide (c = 46#8) := by
  rw [Bool.eq_iff_iff, beq_iff_eq, decide_eq_true_eq, n8_nat]
  constructor
  · intro h; exact BitVec.eq_of_toNat_eq (by show c.toNat = 46; omega)
  · intro h; rw [h]; rfl
set_option maxRecDepth 100000 in
theorem lastByte_any (L : List (BitVec 8)) (w : World) (hL : L.length ≤ 4611686018427387904) : Calls Tryd.prog 59 #[.string (sL L), .int .u8 46] w fun e w' => e = .returned (.int .i64 (lastI L)) ∧ w = w' := by
  have hz := sL_size L
  have IX := Lib.hid (fun (i : Nat) (hi : i < L.length) => sL_at L i hi)
  have HD := Lib.hid (fun i => n8_dot (bx L i))
  have HR : Hid (lastI L = match lastTo L L.length with | none => -1 | some k => (k : Int)) := rfl
  generalize lastI L = R at *
  generalize sL L = S at *
  obtain ⟨n, hn⟩ : ∃ n, L.length = n := ⟨_, rfl⟩
  rw [hn] at hz IX HR hL
  clear hn
  go_enter Tryd.func59, Tryd.ntmps59
  go_wp2_with fail
  go_loopw [5] (fun s5 wr => ∃ k : Nat, k ≤ n ∧ s5 = .int .i64 ((k : Int) - 1) ∧ Hid (lastTo L n = lastTo L k) ∧ w = wr) (fun s5 _ => (intOf s5 + 1).toNat)
  case atStart => exact ⟨n, by omega, rfl, rfl, rfl⟩
  case round =>
    obtain ⟨k, hk, rfl, hall, rfl⟩ := hrel
    cases k with
    | zero =>
      have hRv : R = -1 := by rw [HR.out, hall.out]; rfl
      have HV := Lib.hid hRv
      clear hRv
      have h0 : ¬ (0 : Int) ≤ ((0 : Nat) : Int) - 1 := by omega
      go_wp2_with fail
      go_ret
      exact ⟨by rw [HV.out]; rfl, rfl⟩
    | succ k =>
      have he : ((k + 1 : Nat) : Int) - 1 = (k : Int) := by omega
      rw [he]
      have hix := IX.out k (by omega)
      have hd := HD.out k
      by_cases hc : bx L k = 46#8
      · rw [decide_eq_true hc] at hd
        have hRv : R = (k : Int) := by rw [HR.out, hall.out, lastTo, if_pos hc]
        have HV := Lib.hid hRv
        clear hRv hc hall
        go_wp2_with fail
        go_ret
        exact ⟨by rw [HV.out]; rfl, rfl⟩
      · rw [decide_eq_false hc] at hd
        have HN : Hid (lastTo L n = lastTo L k) := by rw [hall.out, lastTo, if_neg hc]; exact rfl
        clear hall hc
        go_wp2_with fail
        go_roundw
        case rel => exact ⟨k, by omega, rfl, HN, trivial⟩
        case measure => simp only [intOf]; omega
set_option maxRecDepth 100000 in
theorem lastIndex_any (L : List (BitVec 8)) (w : World) (hL : L.length ≤ 4611686018427387904) : Calls Tryd.prog 49 #[.string (sL L), .string ⟨#[46]⟩] w fun e w' => e = .returned (.int .i64 (lastI L)) ∧ w = w' := by
  have HC := Lib.hid (fun w => lastByte_any L w hL)
  generalize lastI L = D at *
  generalize sL L = S at *
  go_enter Tryd.func49, Tryd.ntmps49
  go_wp2_with (go_at_call 59; refine (HC.out _).mono ?_; rintro e w' ⟨rfl, rfl⟩)
  go_ret
  exact ⟨rfl, rfl⟩
/-- A text without its highest part, and that part. -/
def cutH (L : List (BitVec 8)) : List (BitVec 8) × List (BitVec 8) := match lastTo L L.length with | none => ([], L) | some k => (L.take k, L.drop (k + 1))
set_option maxHeartbeats 2000000 in
set_option maxRecDepth 100000 in
theorem cutHighest_any (L : List (BitVec 8)) (w : World) (hL : L.length ≤ 100000) : Calls Tryd.prog 36 #[.string (sL L)] w fun e w' => e = .returned (.tuple #[.string (sL (cutH L).1), .string (sL (cutH L).2)]) ∧ Below w.heap.size w w' := by
  have HC := Lib.hid (fun w => lastIndex_any L w (by omega))
  cases h : lastTo L L.length with
  | none =>
    have hI : lastI L = -1 := by unfold lastI; rw [h]
    have hH : cutH L = ([], L) := by unfold cutH; rw [h]
    rw [hI] at HC
    rw [hH]
    have i1 : ∀ w' : World, (Instr.sliceAt 9 (.string (sL L)) none (some (.int .i64 0)) none).run Tryd.prog w' = .ok (.string (sL [])) w' := run_upto_s L 0 _ rfl (by omega)
    have i2 : ∀ w' : World, (Instr.sliceAt 9 (.string (sL L)) (some (.int .i64 0)) none none).run Tryd.prog w' = .ok (.string (sL L)) w' := run_from_s L 0 _ rfl (by omega)
    have HX : Hid ((sL L).extract 0 (max (-1 : Int) 0).toNat = sL []) := sL_extract0 L 0 (by omega)
    clear hI hH h
    dsimp only
    generalize sL [] = T at *
    generalize sL L = S at *
    go_enter Tryd.func36, Tryd.ntmps36
    go_upto_region 2 with (go_at_call 49; refine (HC.out _).mono ?_; rintro e w' ⟨rfl, rfl⟩)
    go_region
    go_wp2_with fail
    go_ret2
    exact ⟨by rw [HX.out]; rfl, (Below.refl _ _).drew⟩
  | some k =>
    have hk := lastTo_lt h
    have hI : lastI L = (k : Int) := by unfold lastI; rw [h]
    have hH : cutH L = (L.take k, L.drop (k + 1)) := by unfold cutH; rw [h]
    rw [hI] at HC
    rw [hH]
    have i1 : ∀ w' : World, (Instr.sliceAt 9 (.string (sL L)) none (some (.int .i64 (k : Int))) none).run Tryd.prog w' = .ok (.string (sL (L.take k))) w' := run_upto_s L k _ rfl (by omega)
    have i2 : ∀ w' : World, (Instr.sliceAt 9 (.string (sL L)) (some (.int .i64 ((k : Int) + 1))) none none).run Tryd.prog w' = .ok (.string (sL (L.drop (k + 1)))) w' := run_from_s L (k + 1) _ (by omega) (by omega)
    have hm : max (k : Int) 0 = (k : Int) := by omega
    clear hI hH h
    dsimp only
    generalize sL (L.take k) = T at *
    generalize sL (L.drop (k + 1)) = U at *
    generalize sL L = S at *
    go_enter Tryd.func36, Tryd.ntmps36
    go_upto_region 2 with (go_at_call 49; refine (HC.out _).mono ?_; rintro e w' ⟨rfl, rfl⟩)
    go_region
    go_wp2_with fail
    go_ret2
    exact ⟨rfl, (Below.refl _ _).drew⟩
end Go.Proofs.YtddpfbeclmgndaaDoor
