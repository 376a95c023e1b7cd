/-
  name: a name comes back from its bytes, as plain functions.
-/
import Derived.Test.YtddpfbeclmgndaaDoorNmT
import Derived.Test.YtddpfbeclmgndaaDoorNnA
namespace Go.Proofs.YtddpfbeclmgndaaDoor
open Go Go.RowKit Go.BigFrame
set_option linter.unusedSimpArgs false
set_option linter.unusedVariables false
/-- Parts, each with its dot. -/
def flatD (ps : List (List (BitVec 8))) : List (BitVec 8) := (ps.map fun p => p ++ [46#8]).flatten
theorem flatD_cons (p : List (BitVec 8)) (ps : List (List (BitVec 8))) : flatD (p :: ps) = p ++ 46#8 :: flatD ps := by simp [flatD]
theorem flatD_snoc (p : List (BitVec 8)) (ps : List (List (BitVec 8))) : flatD (ps ++ [p]) = flatD ps ++ p ++ [46#8] := by simp [flatD]
theorem flatD_app (ps qs : List (List (BitVec 8))) : flatD (ps ++ qs) = flatD ps ++ flatD qs := by simp [flatD]
theorem flat_join (ps : List (List (BitVec 8))) (h : ps ≠ []) : flatD ps = joinD ps ++ [46#8] := by
  induction ps with
  | nil => exact absurd rfl h
  | cons p ps ih =>
    cases ps with
    | nil => simp [flatD, joinD]
    | cons q qs => rw [flatD_cons, ih (by simp), joinD_cons p (q :: qs) (by simp), List.append_assoc]; rfl
/-- The name of these parts. -/
def nmF (ps : List (List (BitVec 8))) : List (BitVec 8) := if ps = [] then [46#8] else flatD ps
theorem nm_of {L : List (BitVec 8)} (h : rightB L = true) : nmF (labF L) = L := by
  unfold nmF
  by_cases hd : L = [46#8]
  · rw [hd, lab_root, if_pos rfl]
  · obtain ⟨h1, h2⟩ := right_text h hd
    rw [if_neg h2, flat_join _ h2]
    exact h1.symm
theorem okc_low {c : BitVec 8} (h : okc c = true) : lowc c = c := by
  unfold lowc
  rw [if_neg]
  rintro ⟨h1, h2⟩
  unfold okc at h
  simp only [Bool.or_eq_true, Bool.and_eq_true, decide_eq_true_eq, beq_iff_eq] at h
  omega
theorem pst_all {f : Nat → BitVec 8} {n a : Nat} {q : List (BitVec 8)} (hf : ∀ i, i < q.length → f (a + i) = bx q i) (hq : ∀ c ∈ q, okc c = true) (hn : a + q.length ≤ n) :
    ∀ i, i ≤ q.length → pst f n a i = (a + i, 0) ∧ ptx f n a i = q.take i := by
  intro i
  induction i with
  | zero => intro _; exact ⟨rfl, by simp [ptx]⟩
  | succ i ih =>
    intro hi
    obtain ⟨h1, h2⟩ := ih (by omega)
    have hc : okc (bx q i) = true := hq _ (bx_mem (by omega))
    have e : lowc (f (a + i)) = bx q i := by rw [hf i (by omega), okc_low hc]
    constructor
    · rw [pst_next h1, if_neg (by omega), e, if_neg (by rw [hc]; simp)]
      rfl
    · rw [ptx_next h1 (by omega), h2, e]
      have h3 := take_bx q 0 i (by omega)
      simp only [List.drop_zero, Nat.zero_add] at h3
      exact h3.symm
theorem step_of_part {f : Nat → BitVec 8} {n p l d : Nat} {T q : List (BitVec 8)} (hp : isPartB q = true) (h0 : f p = BitVec.ofNat 8 q.length) (hf : ∀ i, i < q.length → f (p + 1 + i) = bx q i) (hn : p + 1 + q.length ≤ n) (hl : (T ++ q ++ [46#8]).length ≤ 254) :
    stepS f n p l d T = (p + 1 + q.length, p, d, T ++ q ++ [46#8], false, 0) := by
  obtain ⟨h1, h2, h3⟩ := part_iff.1 hp
  have hnat : (f p).toNat = q.length := by rw [h0, BitVec.toNat_ofNat]; omega
  have hne : f p ≠ 0#8 := fun e => by rw [e] at hnat; simp at hnat; omega
  obtain ⟨e1, e2⟩ := pst_all hf h3 hn q.length (Nat.le_refl _)
  rw [List.take_length] at e2
  unfold stepS
  rw [if_neg (by omega), if_neg hne, if_pos (by omega), hnat, e1, e2]
  dsimp only
  rw [if_neg (fun h => by have := h.2; omega)]
theorem run_wire {f : Nat → BitVec 8} {n : Nat} : ∀ (ps : List (List (BitVec 8))) (p l k : Nat) (T : List (BitVec 8)), (∀ q ∈ ps, isPartB q = true) → (∀ i, i < (wireTo ps ++ [0#8]).length → f (p + i) = bx (wireTo ps ++ [0#8]) i) → p + (wireTo ps).length + 1 ≤ n → (T ++ flatD ps).length ≤ 254 → meas n l T < k →
    runG f n k p l 0 T = (0, p + (wireTo ps).length + 1, nameF (T ++ flatD ps))
  | [], p, l, k, T, _, hf, hn, hl, hk => by
    obtain ⟨k, rfl⟩ : ∃ j, k = j + 1 := ⟨k - 1, by omega⟩
    have h0 : f p = 0#8 := by
      have h := hf 0 (by simp [wireTo])
      simpa [wireTo, bx] using h
    have hw : (wireTo []).length = 0 := rfl
    rw [hw] at hn ⊢
    have hs : stepS f n p l 0 T = (p + 1, l, p + 1, T, true, 0) := by
      unfold stepS
      rw [if_neg (by omega), if_pos h0, if_pos rfl]
    rw [runG, hs, if_neg (by simp)]
    unfold outG
    rw [if_pos rfl]
    simp [flatD]
  | q :: ps, p, l, k, T, hq, hf, hn, hl, hk => by
    obtain ⟨k, rfl⟩ : ∃ j, k = j + 1 := ⟨k - 1, by omega⟩
    have hw : wireTo (q :: ps) = partF q ++ wireTo ps := by simp [wireTo]
    have hpl : (partF q).length = q.length + 1 := by simp [partF]
    rw [hw, List.length_append, hpl] at hn
    have hlen : (wireTo (q :: ps) ++ [0#8]).length = q.length + 1 + (wireTo ps).length + 1 := by rw [hw, List.length_append, List.length_append, hpl]; rfl
    have hb : ∀ i, bx (wireTo (q :: ps) ++ [0#8]) (q.length + 1 + i) = bx (wireTo ps ++ [0#8]) i := fun i => by
      rw [hw, List.append_assoc, bx_app]
      unfold joinb
      rw [hpl, if_neg (show ¬ q.length + 1 + i < q.length + 1 by omega), Nat.add_sub_cancel_left]
    have hb0 : bx (wireTo (q :: ps) ++ [0#8]) 0 = BitVec.ofNat 8 q.length := by rw [hw, List.append_assoc]; rfl
    have hb1 : ∀ i, i < q.length → bx (wireTo (q :: ps) ++ [0#8]) (1 + i) = bx q i := fun i hi => by
      rw [hw, List.append_assoc, bx_app]
      unfold joinb
      rw [hpl, if_pos (show 1 + i < q.length + 1 by omega)]
      unfold partF
      rw [Nat.add_comm 1 i]
      rfl
    have h0 : f p = BitVec.ofNat 8 q.length := by
      have h := hf 0 (by rw [hlen]; omega)
      rw [hb0] at h
      exact h
    have hf1 : ∀ i, i < q.length → f (p + 1 + i) = bx q i := fun i hi => by
      have h := hf (1 + i) (by rw [hlen]; omega)
      rw [hb1 i hi, ← Nat.add_assoc] at h
      exact h
    have hfl : T ++ flatD (q :: ps) = (T ++ q ++ [46#8]) ++ flatD ps := by rw [flatD_cons]; simp
    rw [hfl] at hl ⊢
    have hl2 : (T ++ q ++ [46#8]).length ≤ 254 := by rw [List.length_append] at hl; omega
    have hs := step_of_part (n := n) (l := l) (d := 0) (hq q (List.mem_cons_self ..)) h0 hf1 (by omega) hl2
    have hm := meas_step (f := f) (n := n) (p := p) (l := l) (d := 0) (T := T) (by rw [hs]) (by rw [hs]) (by rw [List.length_append, List.length_append] at hl2; omega)
    rw [hs] at hm
    dsimp only at hm
    rw [runG, hs, if_pos ⟨rfl, rfl⟩]
    dsimp only
    have ih := run_wire (n := n) ps (p + 1 + q.length) p k (T ++ q ++ [46#8]) (fun r hr => hq r (List.mem_cons_of_mem _ hr)) (fun i hi => by
      have h := hf (q.length + 1 + i) (by rw [hlen]; rw [List.length_append] at hi; simp at hi; omega)
      rw [hb i] at h
      have e : p + 1 + q.length + i = p + (q.length + 1 + i) := by omega
      rw [e]
      exact h) (by omega) hl (by omega)
    rw [ih, hw, List.length_append, hpl]
    congr 2
    omega
/-- A name comes back from its bytes. -/
theorem get_back {f : Nat → BitVec 8} {n p : Nat} {L : List (BitVec 8)} (hr : rightB L = true) (hf : ∀ i, i < (wireF L).length → f (p + i) = bx (wireF L) i) (hn : p + (wireF L).length ≤ n) : getF f n p = (0, p + (wireF L).length, L) := by
  have hw : wireF L = wireTo (labF L) ++ [0#8] := rfl
  have hwl : (wireF L).length = (wireTo (labF L)).length + 1 := by rw [hw, List.length_append]; rfl
  have hll := right_le hr
  have hnm := nm_of hr
  have hfl : (flatD (labF L)).length ≤ 254 := by
    unfold nmF at hnm
    split at hnm
    · rename_i e; rw [e]; decide
    · rw [hnm]; exact hll
  unfold getF
  rw [run_wire (labF L) p p _ [] (lab_part hr) (by rw [← hw]; exact hf) (by omega) (by rw [List.nil_append]; exact hfl) (Nat.lt_succ_self _), hwl, List.nil_append]
  have e : nameF (flatD (labF L)) = L := by
    unfold nmF at hnm
    unfold nameF
    split at hnm
    · rename_i e; rw [e, if_pos (by rfl)]; exact hnm
    · rename_i e
      rw [hnm]
      rw [if_neg]
      rintro rfl
      revert hr
      decide
  rw [e]
  rfl
end Go.Proofs.YtddpfbeclmgndaaDoor
