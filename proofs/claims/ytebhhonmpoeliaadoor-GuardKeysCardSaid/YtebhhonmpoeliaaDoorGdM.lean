/-
  A Mac of at most 55 bytes by its four turns.
-/
import Derived.Test.YtebhhonmpoeliaaDoorShaJ
namespace Go.Proofs.YtebhhonmpoeliaaDoor
open Go Go.RowKit
set_option maxRecDepth 100000
/-- Bytes of a list. -/
def tb (l : List Nat) (i : Nat) : BitVec 8 := BitVec.ofNat 8 (l.getD i 0)
theorem tb_agree (f : Nat → BitVec 8) (l : List Nat) (n : Nat) (h : (List.range n).all (fun i => f i == tb l i) = true) : ∀ i, i < n → f i = tb l i := by
  intro i hi
  have h2 := List.all_eq_true.1 h i (List.mem_range.2 hi)
  exact eq_of_beq h2
theorem sum_two (f : Nat → BitVec 8) (n : Nat) (h1 : 64 ≤ n) (h2 : n ≤ 119) {s1 s2 : W8} (e1 : startW.turn kW f = s1) (e2 : s1.turn kW (fun i => padded f n (64 + i)) = s2) : sumB kW startW f n = stateB s2 := by
  funext i
  unfold sumB stateB
  have hb : (n + 8) / 64 + 1 = 2 := by omega
  rw [hb]
  have e : W8.blocks kW startW (padded f n) 2 = s2 := by
    show (W8.turn kW (W8.turn kW startW (fun i => padded f n (64 * 0 + i))) (fun i => padded f n (64 * 1 + i))) = s2
    rw [W8.turn_congr (f := fun i => padded f n (64 * 0 + i)) (g := f) (fun i hi => by unfold padded; rw [Nat.mul_zero, Nat.zero_add, if_pos (by omega)]), e1, Nat.mul_one]
    exact e2
  rw [e]
theorem mac_of (K p : Nat → BitVec 8) (n : Nat) (hn : n ≤ 55) {s1 s2 s3 s4 : W8} (h1 : startW.turn kW (xorB K 54#8) = s1) (h2 : s1.turn kW (fun i => padded (joinb (xorB K 54#8) 64 p) (64 + n) (64 + i)) = s2)
    (h3 : startW.turn kW (xorB K 92#8) = s3) (h4 : s3.turn kW (fun i => padded (joinb (xorB K 92#8) 64 (stateB s2)) 96 (64 + i)) = s4) (i : Nat) : macB K p n i = stateB s4 i := by
  have j : ∀ (x : BitVec 8) (q : Nat → BitVec 8), startW.turn kW (joinb (xorB K x) 64 q) = startW.turn kW (xorB K x) := fun x q => W8.turn_congr (fun i hi => by unfold joinb; rw [if_pos hi])
  have a : sumS (joinb (xorB K 54#8) 64 p) (64 + n) = stateB s2 := sum_two _ (64 + n) (by omega) (by omega) ((j _ _).trans h1) h2
  have b : sumB kW startW (joinb (xorB K 92#8) 64 (stateB s2)) 96 = stateB s4 := sum_two _ 96 (by omega) (by omega) ((j _ _).trans h3) h4
  unfold macB
  rw [a]
  exact congrFun b i
/-- A key of 32 bytes counts by these alone. -/
theorem keyB_agree {f g : Nat → BitVec 8} {m : Nat} (hm : m ≤ 64) (h : ∀ i, i < m → f i = g i) : keyB f m = keyB g m := by
  funext i
  unfold keyB
  rw [if_pos hm, if_pos hm]
  by_cases hi : i < m
  · rw [if_pos hi, if_pos hi, h i hi]
  · rw [if_neg hi, if_neg hi]
theorem macB_agree {K p q : Nat → BitVec 8} {n : Nat} (h : ∀ i, i < n → p i = q i) : macB K p n = macB K q n := by
  unfold macB
  rw [sumS_congr (f := joinb (xorB K 54#8) 64 p) (g := joinb (xorB K 54#8) 64 q) (fun i hi => by
    unfold joinb
    by_cases h2 : i < 64
    · rw [if_pos h2, if_pos h2]
    · rw [if_neg h2, if_neg h2]; exact h _ (by omega))]
end Go.Proofs.YtebhhonmpoeliaaDoor
