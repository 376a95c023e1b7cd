/-
  name: the first dot of a text; strings.Index at one byte; texts cut; a text split at its dots.
-/
import Derived.Test.YtddpfbeclmgndaaDoorNmA
namespace Go.Proofs.YtddpfbeclmgndaaDoor
open Go Go.RowKit Go.BigFrame
set_option linter.unusedSimpArgs false
set_option linter.unusedVariables false
/-- A text split at its dots. -/
def splitDot : List (BitVec 8) → List (List (BitVec 8))
  | [] => [[]]
  | c :: l => if c = 46#8 then [] :: splitDot l else match splitDot l with
    | [] => [[c]]
    | p :: ps => (c :: p) :: ps
theorem splitDot_ne (l : List (BitVec 8)) : splitDot l ≠ [] := by
  induction l with
  | nil => simp [splitDot]
  | cons c l ih =>
    unfold splitDot
    split
    · simp
    · split <;> simp
/-- The first dot. -/
def dotAt : List (BitVec 8) → Option Nat
  | [] => none
  | c :: l => if c = 46#8 then some 0 else (dotAt l).map (· + 1)
theorem dotAt_none {l : List (BitVec 8)} (h : dotAt l = none) : splitDot l = [l] := by
  induction l with
  | nil => rfl
  | cons c l ih =>
    unfold dotAt at h
    split at h
    · cases h
    · rename_i hc
      have h' : dotAt l = none := by cases e : dotAt l with
        | none => rfl
        | some k => rw [e] at h; cases h
      rw [splitDot, if_neg hc, ih h']
theorem dotAt_lt {l : List (BitVec 8)} {k : Nat} (h : dotAt l = some k) : k < l.length := by
  induction l generalizing k with
  | nil => cases h
  | cons c l ih =>
    unfold dotAt at h
    split at h
    · cases h; simp
    · cases e : dotAt l with
      | none => rw [e] at h; cases h
      | some j => rw [e] at h; cases h; have := ih e; simp; omega
theorem dotAt_some {l : List (BitVec 8)} {k : Nat} (h : dotAt l = some k) : splitDot l = l.take k :: splitDot (l.drop (k + 1)) := by
  induction l generalizing k with
  | nil => cases h
  | cons c l ih =>
    unfold dotAt at h
    split at h
    · rename_i hc
      cases h
      rw [splitDot, if_pos hc]
      rfl
    · rename_i hc
      cases e : dotAt l with
      | none => rw [e] at h; cases h
      | some j =>
        rw [e] at h
        cases h
        rw [splitDot, if_neg hc, ih e]
        rfl
theorem index_dot (l : List (BitVec 8)) : Lib.indexByte (l.map UInt8.ofBitVec) 46 = match dotAt l with | none => -1 | some k => (k : Int) := by
  induction l with
  | nil => rfl
  | cons c l ih =>
    rw [List.map_cons, Lib.indexByte, dotAt, ih]
    by_cases hc : c = 46#8
    · rw [if_pos hc, hc]; rfl
    · have hne : (UInt8.ofBitVec c == 46) = false := by
        rw [beq_eq_false_iff_ne]
        intro h
        exact hc (congrArg UInt8.toBitVec h)
      rw [if_neg hc, hne]
      cases e : dotAt l with
      | none => rfl
      | some k =>
        have : ((k : Int) == -1) = false := by rw [beq_eq_false_iff_ne]; omega
        simp [this]
theorem sL_data (L : List (BitVec 8)) : (sL L).data.toList = L.map UInt8.ofBitVec := by simp [sL]
theorem ret_int {a b : Int} (h : a = b) : Ending.returned (.int .i64 a) = .returned (.int .i64 b) := by rw [h]
theorem sL_take (L : List (BitVec 8)) (k : Nat) (h : k ≤ L.length) : strOf (bx L) k = sL (L.take k) := by
  rw [of_sL]
  congr 1
  apply List.ext_getElem?
  intro i
  by_cases hi : i < k
  · simp [hi, bx, List.getElem?_take, (by omega : i < L.length)]
  · simp [hi, List.getElem?_take]
theorem sL_drop (L : List (BitVec 8)) (k : Nat) (h : k ≤ L.length) : strOf (fun i => bx L (k + i)) (L.length - k) = sL (L.drop k) := by
  rw [of_sL]
  congr 1
  apply List.ext_getElem?
  intro i
  by_cases hi : i < L.length - k
  · simp [hi, bx, List.getElem?_drop, (by omega : k + i < L.length)]
  · simp [hi, List.getElem?_drop]
theorem run_upto_s (L : List (BitVec 8)) (k : Nat) (K : Int) (hK : K = (k : Int)) (hk : k ≤ L.length) (w : World) :
    (Instr.sliceAt 9 (.string (sL L)) none (some (.int .i64 K)) none).run Tryd.prog w = .ok (.string (sL (L.take k))) w := by
  rw [← sL_take L k hk, sL_of]
  exact run_str_upto _ _ k K hK hk w
theorem run_from_s (L : List (BitVec 8)) (k : Nat) (K : Int) (hK : K = (k : Int)) (hk : k ≤ L.length) (w : World) :
    (Instr.sliceAt 9 (.string (sL L)) (some (.int .i64 K)) none none).run Tryd.prog w = .ok (.string (sL (L.drop k))) w := by
  rw [← sL_drop L k hk, sL_of]
  exact run_str_from _ _ k K hK hk w
theorem sL_app (A B : List (BitVec 8)) : sL A ++ sL B = sL (A ++ B) := by
  have : ∀ x y : ByteArray, x.data = y.data → x = y := fun x y h => by cases x; cases y; cases h; rfl
  apply this
  simp [sL]
end Go.Proofs.YtddpfbeclmgndaaDoor
