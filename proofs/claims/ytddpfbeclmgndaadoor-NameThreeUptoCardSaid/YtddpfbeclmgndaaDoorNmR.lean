/-
  name's reader: the name; Get.
-/
import Derived.Test.YtddpfbeclmgndaaDoorNmQ
import Derived.Test.YtddpfbeclmgndaaDoorCallRegion
import Derived.Test.YtddpfbeclmgndaaDoorRegion
import Derived.Deep.LoopGhost
import Derived.Deep.Light
namespace Go.Proofs.YtddpfbeclmgndaaDoor
open Go Go.RowKit Go.BigFrame
set_option linter.unusedSimpArgs false
set_option linter.unusedVariables false
theorem OwnL.shape {B : Nat} {v : Value} {L : List (BitVec 8)} {w : World} (h : OwnL B v L w) : ∃ a cap, v = .slice a L.length cap := by
  rcases (Own.row h).2 with ⟨rfl, h2⟩ | ⟨g, cap, cur, rfl, _⟩
  · exact ⟨none, 0, by rw [h2]⟩
  · exact ⟨_, _, rfl⟩
/-- The name of the parts that were read. -/
def nameF (T : List (BitVec 8)) : List (BitVec 8) := if T = [] then [46#8] else T
set_option maxHeartbeats 4000000 in
set_option maxRecDepth 100000 in
theorem name_any {q : Nat} {a : Option Addr} {n cap : Nat} {f : Nat → BitVec 8} {p l d : Nat} {tv : Value} {T : List (BitVec 8)} {thr : Bool} {e : Nat} {w0 w : World} (h : Gd q a n cap f p l d tv T thr e w0) (hb : Below w0.heap.size w0 w) :
    Calls Tryd.prog 35 #[.pointer (some ⟨q, 0, none⟩)] w fun x w' => x = .returned (.string (sL (nameF T))) ∧ w = w' := by
  have c4 := (hb.cell (p := ⟨q, 4, none⟩) (lt_row h.row)).trans (cells7 h.row).2.2.2.2.1
  by_cases hT : T = []
  · obtain ⟨ta, tc, hs⟩ := h.own.shape
    rw [hT] at hs
    have hN : nameF T = [46#8] := by unfold nameF; rw [if_pos hT]
    rw [hN, sL_dot]
    subst hs
    clear h hN hT
    go_enter Tryd.func35, Tryd.ntmps35
    go_wp2_with fail
    go_ret
    exact ⟨rfl, rfl⟩
  · have hN : nameF T = T := by unfold nameF; rw [if_neg hT]
    rw [hN]
    have cv := h.own.conv hT hb
    obtain ⟨g, tc, hs, -⟩ := h.own.slice hT
    subst hs
    have hl := List.length_pos_iff.2 hT
    have hz : ((T.length : Int) == 0) = false := beq_eq_false_iff_ne.2 (by omega)
    clear h hN hT hl
    generalize sL T = S at *
    generalize T.length = N at *
    go_enter Tryd.func35, Tryd.ntmps35
    go_wp2_with fail
    go_ret
    exact ⟨rfl, rfl⟩
/-- What Get answers: the error, the end, the name. -/
def outG (s : Nat × Nat × Nat × List (BitVec 8) × Bool × Nat) : Nat × Nat × List (BitVec 8) := if s.2.2.2.2.2 = 0 then (0, s.2.2.1, nameF s.2.2.2.1) else (s.2.2.2.2.2, 0, [])
/-- Step after step. -/
def runG (f : Nat → BitVec 8) (n : Nat) : Nat → Nat → Nat → Nat → List (BitVec 8) → Nat × Nat × List (BitVec 8)
  | 0, _, _, _, _ => (0, 0, [])
  | k + 1, p, l, d, T => if (stepS f n p l d T).2.2.2.2.1 = false ∧ (stepS f n p l d T).2.2.2.2.2 = 0 then runG f n k (stepS f n p l d T).1 (stepS f n p l d T).2.1 (stepS f n p l d T).2.2.1 (stepS f n p l d T).2.2.2.1 else outG (stepS f n p l d T)
/-- How much is still to come, at most. -/
def meas (n l : Nat) (T : List (BitVec 8)) : Nat := (255 - T.length) * (n + 2) + l
theorem meas_step {f : Nat → BitVec 8} {n p l d : Nat} {T : List (BitVec 8)} (h1 : (stepS f n p l d T).2.2.2.2.1 = false) (h2 : (stepS f n p l d T).2.2.2.2.2 = 0) (hT : T.length ≤ 254) :
    meas n (stepS f n p l d T).2.1 (stepS f n p l d T).2.2.2.1 < meas n l T ∧ (stepS f n p l d T).2.2.2.1.length ≤ 254 := by
  unfold stepS at *
  split at h2
  · cases h2
  · rename_i hp
    rw [if_neg hp] at h1 ⊢
    split at h2
    · rename_i hc
      rw [if_pos hc] at h1
      cases h1
    · rename_i hc
      rw [if_neg hc] at h1 ⊢
      split at h2
      · rename_i hk
        rw [if_pos hk] at h1 ⊢
        dsimp only at *
        split at h2
        · cases h2
        · rename_i hx
          have hl : (T ++ ptx f n (p + 1) (f p).toNat ++ [46#8]).length = T.length + (f p).toNat + 1 := by rw [List.length_append, List.length_append, ptx_len]; rfl
          have h254 : ¬ 254 < (T ++ ptx f n (p + 1) (f p).toNat ++ [46#8]).length := fun h => hx ⟨h2, h⟩
          rw [hl] at h254
          refine ⟨?_, by rw [hl]; omega⟩
          unfold meas
          rw [hl]
          have hne : (f p).toNat ≠ 0 := fun e => hc (BitVec.eq_of_toNat_eq e)
          obtain ⟨m, hm⟩ : ∃ m, 255 - T.length = m + ((f p).toNat + 1) := ⟨255 - T.length - ((f p).toNat + 1), by omega⟩
          have e2 : 255 - (T.length + (f p).toNat + 1) = m := by omega
          rw [e2, hm, Nat.add_mul]
          have : 1 * (n + 2) ≤ ((f p).toNat + 1) * (n + 2) := Nat.mul_le_mul_right _ (by omega)
          omega
      · rename_i hk
        rw [if_neg hk] at h1 ⊢
        split at h2
        · rename_i h192
          rw [if_pos h192] at h1 ⊢
          split at h2
          · cases h2
          · rename_i hn
            rw [if_neg hn] at h1 ⊢
            split at h2
            · cases h2
            · rename_i ht
              rw [if_neg ht] at h1 ⊢
              refine ⟨?_, hT⟩
              unfold meas
              dsimp only
              omega
        · cases h2
end Go.Proofs.YtddpfbeclmgndaaDoor
