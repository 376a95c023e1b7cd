/-
  FRAMES (plain): what is read of what Put makes.
-/
import Derived.Test.YtcgbhcmgddgheabDoorFrQ
namespace Go.Proofs.YtcgbhcmgddgheabDoor
open Go Go.RowKit Go.BigFrame
set_option linter.unusedSimpArgs false
set_option linter.unusedVariables false
set_option maxRecDepth 100000
def bx (S : ByteArray) (i : Nat) : BitVec 8 := (S.data.toList.getD i 0).toBitVec
theorem bx_str (S : ByteArray) : strOf (bx S) S.size = S := by
  apply ByteArray.ext
  apply Array.ext'
  show (strL _ S.size).toArray.toList = S.data.toList
  have hl : S.data.toList.length = S.size := by simp
  apply List.ext_getElem?
  intro i
  unfold bx
  by_cases h : i < S.size
  · simp [strL, h]
  · rw [List.getElem?_eq_none (by simp [strL]; omega), List.getElem?_eq_none (by omega)]
theorem bx_of (f : Nat → BitVec 8) (n i : Nat) (h : i < n) : bx (strOf f n) i = f i := by
  have h1 := (strOf_eq (bx (strOf f n)) f n).1 (by have := bx_str (strOf f n); rwa [strOf_size] at this)
  exact h1 i h
theorem bx_left (A B : ByteArray) (i : Nat) (h : i < A.size) : bx (A ++ B) i = bx A i := by
  unfold bx
  rw [ByteArray.data_append, Array.toList_append]
  have hl : A.data.toList.length = A.size := by simp
  rw [List.getD_eq_getElem?_getD, List.getD_eq_getElem?_getD, List.getElem?_append_left (by omega)]
theorem bx_right (A B : ByteArray) (i : Nat) : bx (A ++ B) (A.size + i) = bx B i := by
  unfold bx
  rw [ByteArray.data_append, Array.toList_append]
  have hl : A.data.toList.length = A.size := by simp
  rw [List.getD_eq_getElem?_getD, List.getD_eq_getElem?_getD, List.getElem?_append_right (by omega), hl, show A.size + i - A.size = i by omega]
/-- A text lies in a row of bytes from a place on. -/
def Sg (F : Nat → BitVec 8) (o : Nat) (X : ByteArray) : Prop := ∀ i, i < X.size → F (o + i) = bx X i
theorem size_append (A B : ByteArray) : (A ++ B).size = A.size + B.size := by simp
theorem Sg.left {F : Nat → BitVec 8} {o : Nat} {A B : ByteArray} (h : Sg F o (A ++ B)) : Sg F o A := fun i hi => by
  rw [h i (by rw [size_append]; omega), bx_left _ _ _ hi]
theorem Sg.right {F : Nat → BitVec 8} {o : Nat} {A B : ByteArray} (h : Sg F o (A ++ B)) : Sg F (o + A.size) B := fun i hi => by
  rw [Nat.add_assoc, h _ (by rw [size_append]; omega), bx_right]
theorem Sg.at {F : Nat → BitVec 8} {o n : Nat} {g : Nat → BitVec 8} (h : Sg F o (strOf g n)) (i : Nat) (hi : i < n) : F (o + i) = g i := by
  rw [h i (by rw [strOf_size]; exact hi), bx_of _ _ _ hi]
theorem Sg.text {F : Nat → BitVec 8} {o n : Nat} {X : ByteArray} (h : Sg F o X) (hn : X.size = n) : strOf (fun i => F (o + i)) n = X := by
  subst hn
  rw [(strOf_eq _ _ _).2 h, bx_str]
theorem Sg.shift {F : Nat → BitVec 8} {o p : Nat} {X : ByteArray} (h : Sg F o X) (e : o = p) : Sg F p X := e ▸ h
theorem num_back {F : Nat → BitVec 8} {len p : Nat} {x : Int} (h : Sg F p (numT x)) (hl : p + (numT x).size ≤ len) (h0 : 0 ≤ x) (h1 : x ≤ MX) : rNum F len ⟨p, 0⟩ = (x.toNat, ⟨p + (numT x).size, 0⟩) := by
  have hs : (numT x).size = 2 ^ least (BitVec.ofInt 64 x) := strOf_size _ _
  have hx := num_fits x h0 h1
  obtain ⟨q1, q2, q3, _⟩ := got_of (F := fun i => F (p + i)) (len := len - p) (least_lt (BitVec.ofInt 64 x)) (least_fits _ hx) (fun i hi => Sg.at h i hi) (by omega)
  have hv : (BitVec.ofInt 64 x).toNat = x.toNat := by rw [BitVec.toNat_ofInt]; unfold MX at h1; omega
  unfold rNum ctG
  rw [if_pos rfl, if_pos q1, q2, q3, hv, hs]
theorem most_back {F : Nat → BitVec 8} {len p : Nat} {x most : Int} (h : Sg F p (numT x)) (hl : p + (numT x).size ≤ len) (h0 : 0 ≤ x) (h1 : x ≤ MX) (hm : x ≤ most) : rMost F len most ⟨p, 0⟩ = (x.toNat, ⟨p + (numT x).size, 0⟩) := by
  unfold rMost
  rw [num_back h hl h0 h1]
  dsimp only
  rw [decide_eq_true (show ((x.toNat : Nat) : Int) ≤ most by omega)]
  rfl
theorem span_back {F : Nat → BitVec 8} {len p : Nat} {a b : Int} (h : Sg F p (numT (b - a))) (hl : p + (numT (b - a)).size ≤ len) (h0 : 0 ≤ a) (h1 : a ≤ b) (h2 : b ≤ MX) : rSpan F len b ⟨p, 0⟩ = ((a, b), ⟨p + (numT (b - a)).size, 0⟩) := by
  unfold rSpan
  rw [most_back h hl (by omega) (by omega) (by omega)]
  dsimp only
  rw [show b - (((b - a).toNat : Nat) : Int) = a by omega]
theorem gapL_len (A : List (Int × Int)) (n : Nat) : (gapL A n).length = 2 * n := by
  induction n with
  | zero => rfl
  | succ n ih => rw [gapL_succ, List.length_append, ih]; simp; omega
theorem gapL_drop (A : List (Int × Int)) (n j : Nat) (h : j < n) : (gapL A n).drop (2 * j) = ((A.getD j (0, 0)).1 - (A.getD (j + 1) (0, 0)).2 - 2) :: ((A.getD (j + 1) (0, 0)).2 - (A.getD (j + 1) (0, 0)).1) :: (gapL A n).drop (2 * (j + 1)) := by
  induction n with
  | zero => omega
  | succ n ih =>
    have hl := gapL_len A n
    by_cases hj : j < n
    · rw [gapL_succ, List.drop_append_of_le_length (by omega), ih hj, List.drop_append_of_le_length (by omega)]
      rfl
    · obtain rfl : j = n := by omega
      rw [gapL_succ, List.drop_append_of_le_length (by omega), List.drop_of_length_le (by omega), List.drop_of_length_le (by rw [List.length_append, hl]; simp; omega)]
      rfl
theorem gaps_back {F : Nat → BitVec 8} {len : Nat} (A : List (Int × Int)) (hf : fallF MX A) : ∀ (n j p : Nat), j + 1 + n = A.length → Sg F p (numsT ((gapL A (j + n)).drop (2 * j))) → p + (numsT ((gapL A (j + n)).drop (2 * j))).size ≤ len →
    rAcks F len n (A.take (j + 1)) ⟨p, 0⟩ = (A, ⟨p + (numsT ((gapL A (j + n)).drop (2 * j))).size, 0⟩)
  | 0, j, p, hj, hs, hl => by
    have e : (gapL A (j + 0)).drop (2 * j) = [] := List.drop_of_length_le (by
      have : (gapL A (j + 0)).length = 2 * j := gapL_len A j
      omega)
    rw [e, List.take_of_length_le (by omega)]
    rfl
  | n + 1, j, p, hj, hs, hl => by
    have e : (gapL A (j + (n + 1))).drop (2 * j) = ((A.getD j (0, 0)).1 - (A.getD (j + 1) (0, 0)).2 - 2) :: ((A.getD (j + 1) (0, 0)).2 - (A.getD (j + 1) (0, 0)).1) :: (gapL A (j + 1 + n)).drop (2 * (j + 1)) := by
      rw [show j + (n + 1) = j + 1 + n by omega]
      exact gapL_drop A (j + 1 + n) j (by omega)
    rw [e] at hs hl ⊢
    obtain ⟨f1, f2, f3⟩ := fallF_at A MX hf j (by omega)
    obtain ⟨g1, g2, g3⟩ := fallF_at A MX hf (j + 1) (by omega)
    have hn := fallF_next A MX hf j (by omega)
    have hlast : ((A.take (j + 1)).getLastD (0, 0)) = A.getD j (0, 0) := by
      rw [List.getLastD_eq_getLast?, List.getLast?_eq_getElem?, List.length_take, List.getElem?_take, if_pos (by omega), show min (j + 1) A.length - 1 = j by omega, List.getD_eq_getElem?_getD]
    have htk : A.take (j + 1 + 1) = A.take (j + 1) ++ [A.getD (j + 1) (0, 0)] := by
      rw [List.take_succ_eq_append_getElem (show j + 1 < A.length by omega), List.getD_eq_getElem?_getD, List.getElem?_eq_getElem (by omega)]
      rfl
    generalize hy : A.getD j (0, 0) = y at *
    generalize hx : A.getD (j + 1) (0, 0) = x at *
    obtain ⟨y1, y2⟩ := y
    obtain ⟨x1, x2⟩ := x
    dsimp only at *
    unfold MX at f3 g3
    have hs1 : Sg F p (numT (y1 - x2 - 2)) := hs.left
    have hs2 : Sg F (p + (numT (y1 - x2 - 2)).size) (numsT ((x2 - x1) :: (gapL A (j + 1 + n)).drop (2 * (j + 1)))) := hs.right
    have hs3 : Sg F (p + (numT (y1 - x2 - 2)).size) (numT (x2 - x1)) := hs2.left
    have hs4 := hs2.right
    have hsz : (numsT ((y1 - x2 - 2) :: (x2 - x1) :: (gapL A (j + 1 + n)).drop (2 * (j + 1)))).size = (numT (y1 - x2 - 2)).size + ((numT (x2 - x1)).size + (numsT ((gapL A (j + 1 + n)).drop (2 * (j + 1)))).size) := by
      show (numT _ ++ (numT _ ++ numsT _)).size = _
      rw [size_append, size_append]
    rw [hsz] at hl ⊢
    unfold rAcks
    dsimp only
    rw [hlast]
    dsimp only
    rw [most_back hs1 (by omega) (by omega) (by unfold MX; omega) (by omega)]
    dsimp only
    rw [show y1 - 2 - (((y1 - x2 - 2).toNat : Nat) : Int) = x2 by omega, span_back hs3 (by omega) g1 g2 (by unfold MX; omega)]
    dsimp only
    rw [← htk, gaps_back A hf n (j + 1) _ (by omega) hs4 (by omega)]
    congr 2
    omega
theorem ack_back {F : Nat → BitVec 8} {len p : Nat} (N : Int) (A : List (Int × Int)) (hf : falling A) (hN : 0 ≤ N ∧ N ≤ MX) (h : Sg F p (numsT (acksL N A))) (hl : p + (numsT (acksL N A)).size ≤ len) :
    rAckF F len ⟨p, 0⟩ = (N, A, ⟨p + (numsT (acksL N A)).size, 0⟩) := by
  obtain ⟨⟨hn1, hn2⟩, hfa⟩ := hf
  have e : acksL N A = (A.getD 0 (0, 0)).2 :: N :: ((A.length : Int) - 1) :: ((A.getD 0 (0, 0)).2 - (A.getD 0 (0, 0)).1) :: gapL A (A.length - 1) := rfl
  obtain ⟨f1, f2, f3⟩ := fallF_at A MX hfa 0 (by omega)
  have ht : A.take (0 + 1) = [A.getD 0 (0, 0)] := by
    rw [List.take_succ_eq_append_getElem (show 0 < A.length by omega), List.getD_eq_getElem?_getD, List.getElem?_eq_getElem (by omega)]
    rfl
  have gb := fun q hq1 hq2 => gaps_back (F := F) (len := len) A hfa (A.length - 1) 0 q (by omega) hq1 hq2
  rw [Nat.zero_add, Nat.mul_zero, List.drop_zero, ht] at gb
  rw [e] at h hl ⊢
  generalize A.getD 0 (0, 0) = x at *
  obtain ⟨x1, x2⟩ := x
  dsimp only at *
  have h1 : Sg F p (numT x2) := h.left
  have h2 := (show Sg F (p + (numT x2).size) (numsT (N :: ((A.length : Int) - 1) :: (x2 - x1) :: gapL A (A.length - 1))) from h.right)
  have h3 : Sg F (p + (numT x2).size) (numT N) := h2.left
  have h4 := (show Sg F (p + (numT x2).size + (numT N).size) (numsT (((A.length : Int) - 1) :: (x2 - x1) :: gapL A (A.length - 1))) from h2.right)
  have h5 : Sg F (p + (numT x2).size + (numT N).size) (numT ((A.length : Int) - 1)) := h4.left
  have h6 := (show Sg F (p + (numT x2).size + (numT N).size + (numT ((A.length : Int) - 1)).size) (numsT ((x2 - x1) :: gapL A (A.length - 1))) from h4.right)
  have h7 : Sg F (p + (numT x2).size + (numT N).size + (numT ((A.length : Int) - 1)).size) (numT (x2 - x1)) := h6.left
  have h8 := (show Sg F (p + (numT x2).size + (numT N).size + (numT ((A.length : Int) - 1)).size + (numT (x2 - x1)).size) (numsT (gapL A (A.length - 1))) from h6.right)
  have hsz : (numsT (x2 :: N :: ((A.length : Int) - 1) :: (x2 - x1) :: gapL A (A.length - 1))).size = (numT x2).size + ((numT N).size + ((numT ((A.length : Int) - 1)).size + ((numT (x2 - x1)).size + (numsT (gapL A (A.length - 1))).size))) := by
    show (numT _ ++ (numT _ ++ (numT _ ++ (numT _ ++ numsT _)))).size = _
    rw [size_append, size_append, size_append, size_append]
  rw [hsz] at hl ⊢
  unfold rAckF
  dsimp only
  rw [num_back h1 (by omega) (by omega) f3]
  dsimp only
  rw [num_back h3 (by omega) hN.1 hN.2]
  dsimp only
  rw [most_back h5 (by omega) (by omega) (by unfold MX; omega) (by omega)]
  dsimp only
  rw [show ((x2.toNat : Nat) : Int) = x2 by omega, span_back h7 (by omega) f1 f2 f3]
  dsimp only
  rw [show ((A.length : Int) - 1).toNat = A.length - 1 by omega, gb _ h8 (by omega), show ((N.toNat : Nat) : Int) = N by omega]
  congr 3
  omega
end Go.Proofs.YtcgbhcmgddgheabDoor
