/-
  name: strings.Index, HasSuffix, TrimSuffix of this program's texts.
-/
import Derived.Test.YtddpfbeclmgndaaDoorNmB
namespace Go.Proofs.YtddpfbeclmgndaaDoor
open Go Go.RowKit Go.BigFrame
set_option linter.unusedSimpArgs false
set_option linter.unusedVariables false
/-- Where the first dot is; -1: nowhere. -/
def dotI (L : List (BitVec 8)) : Int := match dotAt L with | none => -1 | some k => (k : Int)
set_option maxRecDepth 100000 in
theorem indexByte_any (L : List (BitVec 8)) (w : World) : Calls Tryd.prog 65 #[.string (sL L), .int .u8 46] w fun e w' => e = .returned (.int .i64 (dotI L)) ∧ w = w' := by
  have hI : Lib.indexByte (sL L).data.toList ((46 : Int).toNat.toUInt8) = dotI L := by rw [sL_data]; exact index_dot L
  generalize dotI L = D at *
  generalize sL L = S at *
  go_enter Tryd.func65, Tryd.ntmps65
  go_wp2
  rw [run_callFunc_extern Tryd.func71 (by kernel_rfl) (by kernel_rfl) (by kernel_rfl) (e := Extern.BytealgIndexByte.indexByte) (by kernel_rfl), Lib.run_indexByteString, hI]
  simp only [Result.andThen]
  rw [Oper.upon_value]
  go_wp2
  go_ret
  exact ⟨rfl, rfl⟩
set_option maxHeartbeats 2000000 in
set_option maxRecDepth 100000 in
theorem index_any (L : List (BitVec 8)) (w : World) : Calls Tryd.prog 57 #[.string (sL L), .string ⟨#[46]⟩] w fun e w' => e = .returned (.int .i64 (dotI L)) ∧ w = w' := by
  have hq : ([46] == (sL L).toList) = true → dotI L = 0 := fun h => by
    rw [sL_list, beq_iff_eq] at h
    have e : L = [46#8] := map_u8 (by rw [← h]; rfl)
    rw [e]
    rfl
  have hc := indexByte_any L
  generalize dotI L = D at *
  generalize sL L = S at *
  have HQ := Lib.hid hq
  have HC := Lib.hid hc
  clear hq hc
  go_enter Tryd.func57, Tryd.ntmps57
  go_wp2_with (go_at_call 65; refine (HC.out _).mono ?_; rintro e w' ⟨rfl, rfl⟩)
  · have h : ([46] == S.toList) = true := by assumption
    go_ret
    exact ⟨by rw [HQ.out h]; rfl, rfl⟩
  · go_ret
    exact ⟨rfl, rfl⟩
theorem sindex_any (L : List (BitVec 8)) (w : World) : Calls Tryd.prog 56 #[.string (sL L), .string ⟨#[46]⟩] w fun e w' => e = .returned (.int .i64 (dotI L)) ∧ w = w' := by
  have HC := Lib.hid (index_any L)
  generalize dotI L = D at *
  generalize sL L = S at *
  go_enter Tryd.func56, Tryd.ntmps56
  go_wp2_with (go_at_call 57; refine (HC.out _).mono ?_; rintro e w' ⟨rfl, rfl⟩)
  go_ret
  exact ⟨rfl, rfl⟩
/-- Does A end with B? -/
def sufB (A B : List (BitVec 8)) : Bool := decide (B.length ≤ A.length) && decide (A.drop (A.length - B.length) = B)
/-- A without B at its end. -/
def trimF (A B : List (BitVec 8)) : List (BitVec 8) := if sufB A B then A.take (A.length - B.length) else A
theorem sL_extract (A : List (BitVec 8)) (k : Nat) (h : k ≤ A.length) : (sL A).extract k (sL A).size = sL (A.drop k) := by
  rw [sL_size, ← sL_drop A k h, sL_of, str_cut _ _ _ _ h (Nat.le_refl _)]
theorem sL_extract0 (A : List (BitVec 8)) (k : Nat) (h : k ≤ A.length) : (sL A).extract 0 k = sL (A.take k) := by
  rw [← sL_take A k h, sL_of, str_cut _ _ _ _ (Nat.zero_le _) h, Nat.sub_zero]
  congr 1
  funext i
  rw [Nat.zero_add]
set_option maxHeartbeats 2000000 in
set_option maxRecDepth 100000 in
theorem hasSuffix_any (A B : List (BitVec 8)) (w : World) (hA : A.length ≤ 9223372036854775807) : Calls Tryd.prog 37 #[.string (sL A), .string (sL B)] w fun e w' => e = .returned (.bool (sufB A B)) ∧ w = w' := by
  have hlo : (sL B).size ≤ (sL A).size → (((sL A).size : Int) - ((sL B).size : Int) + 9223372036854775808) % 18446744073709551616 - 9223372036854775808 = (((sL A).size - (sL B).size : Nat) : Int) := fun _ => by have zA := sL_size A; have zB := sL_size B; omega
  have h1 : (sL B).size ≤ (sL A).size → (((sL A).extract ((sL A).size - (sL B).size) (sL A).size).toList == (sL B).toList) = sufB A B := fun h => by
    rw [sL_size, sL_size] at h
    unfold sufB
    rw [sL_extract _ _ (by rw [sL_size, sL_size]; omega), sL_size, sL_size, decide_eq_true h, Bool.true_and, sL_beq]
  have h2 : ¬ (sL B).size ≤ (sL A).size → sufB A B = false := fun h => by
    rw [sL_size, sL_size] at h
    unfold sufB
    rw [decide_eq_false h, Bool.false_and]
  generalize sufB A B = R at *
  generalize sL A = S at *
  generalize sL B = T at *
  have H1 := Lib.hid h1
  have H2 := Lib.hid h2
  clear h1 h2
  go_enter Tryd.func37, Tryd.ntmps37
  go_wp2
  · have h : T.size ≤ S.size := by assumption
    go_ret
    exact ⟨ret_bool (H1.out h), rfl⟩
  · have h : ¬ T.size ≤ S.size := by omega
    go_ret
    exact ⟨ret_bool (H2.out h).symm, rfl⟩
set_option maxHeartbeats 2000000 in
set_option maxRecDepth 100000 in
theorem trimSuffix_any (A B : List (BitVec 8)) (w : World) (hA : A.length ≤ 9223372036854775807) : Calls Tryd.prog 31 #[.string (sL A), .string (sL B)] w fun e w' => e = .returned (.string (sL (trimF A B))) ∧ w = w' := by
  have hlo : (sL B).size ≤ (sL A).size → (((sL A).size : Int) - ((sL B).size : Int) + 9223372036854775808) % 18446744073709551616 - 9223372036854775808 = (((sL A).size - (sL B).size : Nat) : Int) := fun _ => by have zA := sL_size A; have zB := sL_size B; omega
  have h1 : (sL B).size ≤ (sL A).size → (((sL A).extract ((sL A).size - (sL B).size) (sL A).size).toList == (sL B).toList) = sufB A B := fun h => by
    rw [sL_size, sL_size] at h
    unfold sufB
    rw [sL_extract _ _ (by rw [sL_size, sL_size]; omega), sL_size, sL_size, decide_eq_true h, Bool.true_and, sL_beq]
  have h2 : ¬ (sL B).size ≤ (sL A).size → sufB A B = false := fun h => by
    rw [sL_size, sL_size] at h
    unfold sufB
    rw [decide_eq_false h, Bool.false_and]
  have h3 : (sL B).size ≤ (sL A).size → sufB A B = true → (sL A).extract 0 ((sL A).size - (sL B).size) = sL (trimF A B) := fun h he => by
    unfold trimF
    rw [if_pos he, sL_extract0 _ _ (by rw [sL_size, sL_size]; omega), sL_size, sL_size]
  have h4 : sufB A B = false → sL A = sL (trimF A B) := fun he => by
    unfold trimF
    rw [if_neg (by rw [he]; simp)]
  generalize sufB A B = R at *
  generalize sL (trimF A B) = U at *
  generalize sL A = S at *
  generalize sL B = T at *
  have H1 := Lib.hid h1
  have H2 := Lib.hid h2
  have H3 := Lib.hid h3
  have H4 := Lib.hid h4
  clear h1 h2 h3 h4
  go_enter Tryd.func31, Tryd.ntmps31
  go_wp2
  · have h : T.size ≤ S.size := by assumption
    have h2 : ((S.extract (S.size - T.size) S.size).toList == T.toList) = true := by assumption
    go_ret
    exact ⟨by rw [← H3.out h (by rw [← H1.out h]; exact h2)]; simp, rfl⟩
  · have h : T.size ≤ S.size := by assumption
    have h2 : ((S.extract (S.size - T.size) S.size).toList == T.toList) = false := by assumption
    go_ret
    exact ⟨by rw [← H4.out (by rw [← H1.out h]; exact h2)]; rfl, rfl⟩
  · have h : ¬ T.size ≤ S.size := by assumption
    go_ret
    exact ⟨by rw [← H4.out (H2.out h)]; rfl, rfl⟩
end Go.Proofs.YtddpfbeclmgndaaDoor
