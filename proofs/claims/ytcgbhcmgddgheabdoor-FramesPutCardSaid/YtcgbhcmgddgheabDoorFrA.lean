/-
  FRAMES, FIRST PART: a frame's cells, and whether each of its parts is as its kind asks.
-/
import Derived.Test.YtcgbhcmgddgheabDoorVlqH
import Derived.Deep.DeepCutAuto
namespace Go.Proofs.YtcgbhcmgddgheabDoor
open Go Go.RowKit Go.BigFrame
set_option linter.unusedSimpArgs false
set_option linter.unusedVariables false
set_option maxRecDepth 100000
theorem ret_no {P : Prop} [Decidable P] (h : ¬ P) : Ending.returned (.bool false) = .returned (.bool (decide P)) := by rw [decide_eq_false h]
theorem ret_yes {P : Prop} [Decidable P] (h : P) : Ending.returned (.bool true) = .returned (.bool (decide P)) := by rw [decide_eq_true h]
theorem ret_int {a b : Int} (h : b = a) : Ending.returned (.int .i64 a) = .returned (.int .i64 b) := by rw [h]
theorem ret_bool {a b : Bool} (h : b = a) : Ending.returned (.bool a) = .returned (.bool b) := by rw [h]
/-- A frame: its numbers, its texts, its spans. -/
structure Fr where
  K : Int
  S : Int
  O : Int
  N : Int
  C : Int
  F : Bool
  D : ByteArray
  X : ByteArray
  A : List (Int × Int)
def frC (K S O N C : Int) (F : Bool) (D X : ByteArray) (v : Value) : Array Value := #[.int .i64 K, .int .i64 S, .int .i64 O, .int .i64 N, .int .i64 C, .bool F, .string D, .string X, v]
def Fr.cells (f : Fr) (v : Value) : Array Value := frC f.K f.S f.O f.N f.C f.F f.D f.X v
theorem cells9 {w : World} {B : Nat} {T : TypeId} {x0 x1 x2 x3 x4 x5 x6 x7 x8 : Value} (h : w.heap[B]? = some (.cells #[x0, x1, x2, x3, x4, x5, x6, x7, x8] T (0, 0))) :
    w.cell? ⟨B, 0, none⟩ = some x0 ∧ w.cell? ⟨B, 1, none⟩ = some x1 ∧ w.cell? ⟨B, 2, none⟩ = some x2 ∧ w.cell? ⟨B, 3, none⟩ = some x3 ∧ w.cell? ⟨B, 4, none⟩ = some x4 ∧ w.cell? ⟨B, 5, none⟩ = some x5 ∧ w.cell? ⟨B, 6, none⟩ = some x6 ∧ w.cell? ⟨B, 7, none⟩ = some x7 ∧ w.cell? ⟨B, 8, none⟩ = some x8 := by
  refine ⟨?_, ?_, ?_, ?_, ?_, ?_, ?_, ?_, ?_⟩ <;> rw [cell_of_row _ _ _ _ _ _ h] <;> rfl
/-- Spans that lie somewhere, as a slice. -/
structure SpansIn (w : World) (L : Value) (A : List (Int × Int)) : Prop where
  at_ : ∃ a c, L = .slice a A.length c ∧ (A.length ≤ c ∧ c ≤ maxLen) ∧ (A = [] ∨ ∃ b o, a = some ⟨b, o, none⟩ ∧ b < w.heap.size ∧ ∀ (i : Nat) (hi : i < A.length), w.cell? ⟨b, o + i * 2, none⟩ = some (.int .i64 A[i].1) ∧ w.cell? ⟨b, o + i * 2 + 1, none⟩ = some (.int .i64 A[i].2))
theorem SpansIn.later {w w' : World} {L : Value} {A : List (Int × Int)} (h : SpansIn w L A) (hb : Below w.heap.size w w') : SpansIn w' L A := by
  obtain ⟨a, c, e, hc, hat⟩ := h.at_
  refine ⟨a, c, e, hc, ?_⟩
  rcases hat with h0 | ⟨b, o, ea, hl, hcell⟩
  · exact .inl h0
  · exact .inr ⟨b, o, ea, Nat.lt_of_lt_of_le hl hb.size, fun i hi => ⟨(hb.cell (p := ⟨b, o + i * 2, none⟩) hl).trans (hcell i hi).1, (hb.cell (p := ⟨b, o + i * 2 + 1, none⟩) hl).trans (hcell i hi).2⟩⟩
theorem SpansIn.none (w : World) : SpansIn w (.slice none 0 0) [] := ⟨⟨_, _, rfl, ⟨Nat.le_refl _, Nat.zero_le _⟩, .inl rfl⟩⟩
def MX : Int := 4611686018427387903
/-- Do spans fall, each with a number between it and the one ahead, the first one not above most? -/
def fallF : Int → List (Int × Int) → Prop
  | _, [] => True
  | most, (a, b) :: l => (0 ≤ a ∧ a ≤ b ∧ b ≤ most) ∧ fallF (a - 2) l
instance fallF_dec : ∀ (l : List (Int × Int)) (most : Int), Decidable (fallF most l)
  | [], _ => isTrue trivial
  | (a, b) :: l, most => by
    unfold fallF
    exact @instDecidableAnd _ _ _ (fallF_dec l (a - 2))
def falling (l : List (Int × Int)) : Prop := (1 ≤ l.length ∧ l.length ≤ 64) ∧ fallF MX l
instance (l : List (Int × Int)) : Decidable (falling l) := by unfold falling; infer_instance
def mostO (f : Fr) : Int := if f.K = 24 then f.N else MX
def mostN (f : Fr) : Int := if f.K = 18 ∨ f.K = 22 then 1152921504606846976 else MX
def leastD (f : Fr) : Int := if f.K = 7 then 1 else 0
def fitsF (f : Fr) : Nat → Prop
  | 0 => 0 ≤ f.S ∧ f.S ≤ MX
  | 1 => 0 ≤ f.O ∧ f.O ≤ mostO f
  | 2 => 0 ≤ f.N ∧ f.N ≤ mostN f
  | 3 => 0 ≤ f.C ∧ f.C ≤ MX
  | 4 => leastD f ≤ f.D.size ∧ (f.D.size : Int) ≤ 65535
  | 5 => leastD f ≤ f.D.size ∧ (f.D.size : Int) ≤ 65535
  | 6 => (1 : Int) ≤ f.D.size ∧ (f.D.size : Int) ≤ 20
  | 7 => (f.D.size : Int) = 8
  | 8 => (f.X.size : Int) = 16
  | 9 => (0 ≤ f.N ∧ f.N ≤ MX) ∧ falling f.A
  | 10 => 1 ≤ f.N ∧ f.N ≤ 65535
  | _ => False
instance (f : Fr) (p : Nat) : Decidable (fitsF f p) := by unfold fitsF; split <;> infer_instance
def endsF (f : Fr) : Prop := (f.K ≠ 6 ∧ f.K ≠ 8) ∨ f.O ≤ MX - f.D.size
instance (f : Fr) : Decidable (endsF f) := by unfold endsF; infer_instance
@[irreducible] def withinB (n lo hi : Int) : Bool := decide (lo ≤ n ∧ n ≤ hi)
theorem withinB_eq (n lo hi : Int) : withinB n lo hi = decide (lo ≤ n ∧ n ≤ hi) := by unfold withinB; rfl
theorem within_dec {P : Prop} [Decidable P] {n lo hi : Int} {m : Bool} (h : decide P = m) (hp : P ↔ (lo ≤ n ∧ n ≤ hi)) : m = withinB n lo hi := by
  rw [withinB_eq, ← h]; exact decide_eq_decide.2 hp
theorem within_t {n lo hi : Int} (h : lo ≤ n ∧ n ≤ hi) : withinB n lo hi = true := by rw [withinB_eq]; exact decide_eq_true h
theorem within_f {n lo hi : Int} (h : ¬ (lo ≤ n ∧ n ≤ hi)) : withinB n lo hi = false := by rw [withinB_eq]; exact decide_eq_false h
set_option maxHeartbeats 1000000 in
theorem within_any (n lo hi : Int) (w : World) : Calls Tryd.prog 41 #[.int .i64 n, .int .i64 lo, .int .i64 hi] w fun e w' => e = .returned (.bool (withinB n lo hi)) ∧ w = w' := by
  obtain ⟨b, hb⟩ : ∃ b, withinB n lo hi = b := ⟨_, rfl⟩
  rw [hb]
  rw [withinB_eq] at hb
  have HB := Lib.hid hb
  clear hb
  by_cases h0 : lo ≤ n
  · by_cases h1 : n ≤ hi
    · have R := Lib.hid (HB.out.symm.trans (decide_eq_true ⟨h0, h1⟩))
      go_enter Tryd.func41, Tryd.ntmps41
      go_wp2_with fail
      go_ret
      exact ⟨ret_bool R.out, rfl⟩
    · have R := Lib.hid (HB.out.symm.trans (decide_eq_false (fun h => h1 h.2)))
      go_enter Tryd.func41, Tryd.ntmps41
      go_wp2_with fail
      go_ret
      exact ⟨ret_bool R.out, rfl⟩
  · have R := Lib.hid (HB.out.symm.trans (decide_eq_false (fun h => h0 h.1)))
    go_enter Tryd.func41, Tryd.ntmps41
    go_wp2_with fail
    go_ret
    exact ⟨ret_bool R.out, rfl⟩
set_option maxHeartbeats 4000000 in
theorem mostOff_any (f : Fr) (v : Value) (w : World) : Calls Tryd.prog 42 #[.agg (f.cells v)] w fun e w' => e = .returned (.int .i64 (mostO f)) ∧ Below w.heap.size w w' := by
  obtain ⟨m, hm⟩ : ∃ m, mostO f = m := ⟨_, rfl⟩
  rw [hm]
  unfold mostO at hm
  obtain ⟨K, S, O, N, C, F, D, X, A⟩ := f
  dsimp only [Fr.cells] at *
  unfold frC
  have HM := Lib.hid hm
  clear hm
  have row := heap_alloc_last w (.cells #[.int .i64 K, .int .i64 S, .int .i64 O, .int .i64 N, .int .i64 C, .bool F, .string D, .string X, v] 33)
  have bel := (Below.refl w.heap.size w).alloc (Nat.le_refl _) (.cells #[.int .i64 K, .int .i64 S, .int .i64 O, .int .i64 N, .int .i64 C, .bool F, .string D, .string X, v] 33)
  go_enter Tryd.func42, Tryd.ntmps42
  go_upto_region 1 with (fail)
  generalize w.alloc _ = wa at *
  obtain ⟨c0, c1, c2, c3, c4, c5, c6, c7, c8⟩ := cells9 row
  by_cases h : K = 24
  · have R := Lib.hid (HM.out.symm.trans (if_pos h))
    clear row HM
    go_wp2_with fail
    go_ret
    exact ⟨ret_int R.out, bel⟩
  · have R := Lib.hid (HM.out.symm.trans (if_neg h))
    clear row HM
    go_wp2_with fail
    go_ret
    exact ⟨ret_int R.out, bel⟩
set_option maxHeartbeats 4000000 in
theorem mostN_any (f : Fr) (v : Value) (w : World) : Calls Tryd.prog 43 #[.agg (f.cells v)] w fun e w' => e = .returned (.int .i64 (mostN f)) ∧ Below w.heap.size w w' := by
  obtain ⟨m, hm⟩ : ∃ m, mostN f = m := ⟨_, rfl⟩
  rw [hm]
  unfold mostN at hm
  obtain ⟨K, S, O, N, C, F, D, X, A⟩ := f
  dsimp only [Fr.cells] at *
  unfold frC
  have HM := Lib.hid hm
  clear hm
  have row := heap_alloc_last w (.cells #[.int .i64 K, .int .i64 S, .int .i64 O, .int .i64 N, .int .i64 C, .bool F, .string D, .string X, v] 33)
  have bel := (Below.refl w.heap.size w).alloc (Nat.le_refl _) (.cells #[.int .i64 K, .int .i64 S, .int .i64 O, .int .i64 N, .int .i64 C, .bool F, .string D, .string X, v] 33)
  go_enter Tryd.func43, Tryd.ntmps43
  go_upto_region 1 with (fail)
  generalize w.alloc _ = wa at *
  obtain ⟨c0, c1, c2, c3, c4, c5, c6, c7, c8⟩ := cells9 row
  by_cases h : K = 18
  · have R := Lib.hid (HM.out.symm.trans (if_pos (.inl h)))
    clear row HM
    go_wp2_with fail
    go_ret
    exact ⟨ret_int R.out, bel⟩
  · by_cases h2 : K = 22
    · have e1 : (K == 18) = false := by simp [h]
      have R := Lib.hid (HM.out.symm.trans (if_pos (.inr h2)))
      clear row HM
      go_wp2_with fail
      go_ret
      exact ⟨ret_int R.out, bel⟩
    · have e1 : (K == 18) = false := by simp [h]
      have e2 : (K == 22) = false := by simp [h2]
      have R := Lib.hid (HM.out.symm.trans (if_neg (by omega)))
      clear row HM
      go_wp2_with fail
      go_ret
      exact ⟨ret_int R.out, bel⟩
set_option maxHeartbeats 4000000 in
theorem leastData_any (f : Fr) (v : Value) (w : World) : Calls Tryd.prog 44 #[.agg (f.cells v)] w fun e w' => e = .returned (.int .i64 (leastD f)) ∧ Below w.heap.size w w' := by
  obtain ⟨m, hm⟩ : ∃ m, leastD f = m := ⟨_, rfl⟩
  rw [hm]
  unfold leastD at hm
  obtain ⟨K, S, O, N, C, F, D, X, A⟩ := f
  dsimp only [Fr.cells] at *
  unfold frC
  have HM := Lib.hid hm
  clear hm
  have row := heap_alloc_last w (.cells #[.int .i64 K, .int .i64 S, .int .i64 O, .int .i64 N, .int .i64 C, .bool F, .string D, .string X, v] 33)
  have bel := (Below.refl w.heap.size w).alloc (Nat.le_refl _) (.cells #[.int .i64 K, .int .i64 S, .int .i64 O, .int .i64 N, .int .i64 C, .bool F, .string D, .string X, v] 33)
  go_enter Tryd.func44, Tryd.ntmps44
  go_upto_region 1 with (fail)
  generalize w.alloc _ = wa at *
  obtain ⟨c0, c1, c2, c3, c4, c5, c6, c7, c8⟩ := cells9 row
  by_cases h : K = 7
  · have R := Lib.hid (HM.out.symm.trans (if_pos h))
    clear row HM
    go_wp2_with fail
    go_ret
    exact ⟨ret_int R.out, bel⟩
  · have R := Lib.hid (HM.out.symm.trans (if_neg h))
    clear row HM
    go_wp2_with fail
    go_ret
    exact ⟨ret_int R.out, bel⟩
set_option maxHeartbeats 4000000 in
theorem endsInTime_any (f : Fr) (v : Value) (w : World) (hD : f.D.size ≤ maxLen) : Calls Tryd.prog 22 #[.agg (f.cells v)] w fun e w' => e = .returned (.bool (decide (endsF f))) ∧ Below w.heap.size w w' := by
  obtain ⟨m, hm⟩ : ∃ m, decide (endsF f) = m := ⟨_, rfl⟩
  rw [hm]
  unfold endsF MX at hm
  have hD2 : (f.D.size : Int) ≤ 9223372036854775807 := by unfold maxLen at hD; omega
  clear hD
  obtain ⟨K, S, O, N, C, F, D, X, A⟩ := f
  dsimp only [Fr.cells] at *
  unfold frC
  have HM := Lib.hid hm
  clear hm
  have row := heap_alloc_last w (.cells #[.int .i64 K, .int .i64 S, .int .i64 O, .int .i64 N, .int .i64 C, .bool F, .string D, .string X, v] 33)
  have bel := (Below.refl w.heap.size w).alloc (Nat.le_refl _) (.cells #[.int .i64 K, .int .i64 S, .int .i64 O, .int .i64 N, .int .i64 C, .bool F, .string D, .string X, v] 33)
  go_enter Tryd.func22, Tryd.ntmps22
  go_upto_region 1 with (fail)
  generalize w.alloc _ = wa at *
  obtain ⟨c0, c1, c2, c3, c4, c5, c6, c7, c8⟩ := cells9 row
  by_cases h : K = 6 ∨ K = 8
  · by_cases h2 : O ≤ 4611686018427387903 - (D.size : Int)
    · have R := Lib.hid (HM.out.symm.trans (decide_eq_true (.inr h2)))
      clear row HM
      rcases h with rfl | rfl
      all_goals
        go_wp2_with fail
        go_ret
        exact ⟨ret_bool R.out, bel⟩
    · have R := Lib.hid (HM.out.symm.trans (decide_eq_false (by omega)))
      clear row HM
      rcases h with rfl | rfl
      all_goals
        go_wp2_with fail
        go_ret
        exact ⟨ret_bool R.out, bel⟩
  · have e1 : (K != 6) = true := by simp; omega
    have e2 : (K != 8) = true := by simp; omega
    have R := Lib.hid (HM.out.symm.trans (decide_eq_true (.inl (by omega))))
    clear row HM
    go_wp2_with fail
    go_ret
    exact ⟨ret_bool R.out, bel⟩
end Go.Proofs.YtcgbhcmgddgheabDoor
