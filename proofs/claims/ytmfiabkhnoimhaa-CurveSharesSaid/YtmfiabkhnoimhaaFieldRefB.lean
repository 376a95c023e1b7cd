/-
  THE DOCUMENT'S ANSWER FOR field, SECOND PART: carry.
-/
import Derived.Test.YtmfiabkhnoimhaaFieldRefA
namespace Go.Proofs.Ytmfiabkhnoimhaa
open Go Go.RowKit Go.BigFrame
theorem ov_bound (d : Nat → Int) (h : ∀ i, -1099511627776 ≤ d i ∧ d i ≤ 1099511627776) (i : Nat) : -8589934592 ≤ RefF.ov d i ∧ RefF.ov d i ≤ 8589934592 := by
  induction i with
  | zero => simp [RefF.ov]
  | succ i ih =>
    have := h i
    unfold RefF.ov
    omega
theorem rnd_bound (d : Nat → Int) (h : ∀ i, -1099511627776 ≤ d i ∧ d i ≤ 1099511627776) (i : Nat) : -1099511627776 ≤ RefF.rnd d i ∧ RefF.rnd d i ≤ 1099511627776 := by
  have h1 := ov_bound d h 32
  have h2 := RefF.dig_range d i
  unfold RefF.rnd
  split <;> omega
theorem rnds_bound (d : Nat → Int) (h : ∀ i, -1099511627776 ≤ d i ∧ d i ≤ 1099511627776) (k i : Nat) : -1099511627776 ≤ RefF.rnds k d i ∧ RefF.rnds k d i ≤ 1099511627776 := by
  induction k generalizing i with
  | zero => exact h i
  | succ k ih => exact rnd_bound _ ih i
def passTo (d : Nat → Int) (i j : Nat) : Int := if j < i then RefF.dig d j else d j
/-- The first 32 digits are those of one, the rest those of another. -/
def mix (a e : Nat → Int) (i : Nat) : Int := if i < 32 then a i else e i
theorem mix_low (a e : Nat → Int) (i : Nat) (h : i < 32) : mix a e i = a i := if_pos h
theorem mix_self (d : Nat → Int) (M : Nat) : dC (mix d d) M = dC d M := dC_congr _ _ _ (fun i _ => by unfold mix; split <;> rfl)
theorem mix_set (a e f : Nat → Int) (j : Nat) (x : Int) (M : Nat) (hj : j < 32) (h : ∀ i, i < 32 → f i = if i = j then x else a i) : dC (fun i => if i = j then x else mix a e i) M = dC (mix f e) M := by
  refine dC_congr _ _ _ (fun i _ => ?_)
  unfold mix
  by_cases h1 : i < 32
  · rw [if_pos h1, if_pos h1, h i h1]
  · rw [if_neg h1, if_neg h1, if_neg (by omega)]
set_option maxHeartbeats 2000000 in
theorem carry_any (d : Nat → Int) (b c M : Nat) (w : World) (hM : 32 ≤ M) (hrow : w.heap[b]? = some (.cells (dC d M) 3 (0, 0))) (hd : ∀ i, -1099511627776 ≤ d i ∧ d i ≤ 1099511627776) :
    Calls Try.prog 44 #[.slice (some ⟨b, 0, none⟩) 32 c] w fun e w' => e = .returned (.tuple #[]) ∧ Below b w w' ∧ w'.heap[b]? = some (.cells (dC (mix (RefF.rnds 6 d) d) M) 3 (0, 0)) ∧ (∀ k, k ≠ b → w'.heap[k]? = w.heap[k]?) := by
  go_enter Try.func44, Try.ntmps44
  go_wp2_with fail
  go_loopw [2] (fun s wr => ∃ k : Nat, k ≤ 6 ∧ s = .int .i64 (k : Int) ∧ wr.heap[b]? = some (.cells (dC (mix (RefF.rnds k d) d) M) 3 (0, 0)) ∧ Below b w wr ∧ (∀ k, k ≠ b → wr.heap[k]? = w.heap[k]?)) (fun s _ => 6 - (intOf s).toNat)
  case atStart => exact ⟨0, by omega, rfl, by show w.heap[b]? = some (.cells (dC (mix d d) M) _ _); rw [mix_self]; exact hrow, Below.refl _ _, fun _ _ => rfl⟩
  case round =>
    obtain ⟨k, hk, rfl, q, hbw, hoth⟩ := hrel
    have HO := Lib.hid hoth
    clear hoth hrow
    by_cases hlt : k < 6
    · have hB := rnds_bound d hd k
      generalize hg : RefF.rnds k d = g at *
      have HG := Lib.hid hg
      have HBd := Lib.hid hB
      have Hd := Lib.hid hd
      clear hg hB hd
      obtain ⟨wo, rfl⟩ : ∃ wo : World, wo = wr := ⟨_, rfl⟩
      go_wp2_with fail
      go_loopw [3, 4] (fun s3 s4 wq => ∃ i : Nat, i ≤ 32 ∧ s4 = .int .i64 (i : Int) ∧ s3 = .int .i64 (RefF.ov g i) ∧ wq.heap[b]? = some (.cells (dC (mix (passTo g i) d) M) 3 (0, 0)) ∧ Below b w wq ∧ (∀ k, k ≠ b → wq.heap[k]? = w.heap[k]?)) (fun _ s4 _ => 32 - (intOf s4).toNat)
      case atStart => exact ⟨0, by omega, rfl, rfl, q, hbw, HO.out⟩
      case round =>
        obtain ⟨i, hi, rfl, rfl, q2, hbw2, hoth2⟩ := hrel
        have HO2 := Lib.hid hoth2
        clear hoth2 q hbw
        have v0 := ov_bound g HBd.out i
        by_cases hl2 : i < 32
        · have gi := HBd.out i
          have ko : wr.cell? ⟨b, i, none⟩ = some (.int .i64 (g i)) := by rw [cell_of_row _ _ _ _ _ _ q2, dC_get _ M i (by omega), mix_low _ _ _ hl2]; unfold passTo; rw [if_neg (by omega)]
          have kf : wr.frozen? ⟨b, i, none⟩ = false := frozen_of_row _ _ _ _ _ q2
          go_wp2_with fail
          go_roundw
          case rel =>
            refine ⟨i + 1, by omega, by go_num, rfl, ?_, (hbw2.setCell (Nat.le_refl _) _).setCell (Nat.le_refl _) _, fun j hj => ?_⟩
            · rw [heap_setCell_same _ _ _ _ _ _ (heap_setCell_same _ _ _ _ _ _ q2), dC_set, dC_set]
              rw [dC_congr _ (fun j => if j = i then RefF.dig g i else mix (passTo g i) d j) M (fun j _ => by
                by_cases h : j = i
                · rw [if_pos h, if_pos h]; rfl
                · rw [if_neg h, if_neg h, if_neg h])]
              rw [mix_set (passTo g i) d (passTo g (i + 1)) i (RefF.dig g i) M hl2 (fun j _ => ?_)]
              unfold passTo
              by_cases h : j = i
              · subst h
                rw [if_pos rfl, if_pos (by omega)]
              · rw [if_neg h]
                by_cases h2 : j < i
                · rw [if_pos h2, if_pos (by omega)]
                · rw [if_neg h2, if_neg (by omega)]
            · rw [heap_setCell_other _ _ _ _ hj, heap_setCell_other _ _ _ _ hj, HO2.out j hj]
          case measure => simp [intOf]; omega
        · obtain rfl : i = 32 := by omega
          have g0 := RefF.dig_range g 0
          have ko : wr.cell? ⟨b, 0, none⟩ = some (.int .i64 (RefF.dig g 0)) := by rw [cell_of_row _ _ _ _ _ _ q2, dC_get _ M 0 (by omega)]; rfl
          have kf : wr.frozen? ⟨b, 0, none⟩ = false := frozen_of_row _ _ _ _ _ q2
          go_wp2_with fail
          go_roundw
          case rel =>
            refine ⟨k + 1, by omega, by go_num, ?_, hbw2.setCell (Nat.le_refl _) _, fun j hj => ?_⟩
            · rw [heap_setCell_same _ _ _ _ _ _ q2, dC_set]
              rw [mix_set (passTo g 32) d (RefF.rnds (k + 1) d) 0 _ M (by omega) (fun j hj => ?_)]
              show RefF.rnd (RefF.rnds k d) j = _
              rw [HG.out]
              unfold passTo RefF.rnd
              by_cases h : j = 0
              · rw [if_pos h, if_pos h, h]
              · rw [if_neg h, if_neg h, if_pos hj]; omega
            · rw [heap_setCell_other _ _ _ _ hj, HO2.out j hj]
          case measure => simp [intOf]; omega
    · obtain rfl : k = 6 := by omega
      go_wp2_with fail
      go_end0
      exact ⟨rfl, hbw, q, HO.out⟩
end Go.Proofs.Ytmfiabkhnoimhaa
