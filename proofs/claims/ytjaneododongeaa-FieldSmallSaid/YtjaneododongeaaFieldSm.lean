/-
  SMALL NUMBERS AS ROWS OF BYTES, AS NUMBERS OF field, AND AS TEXTS.
-/
import Derived.Test.YtjaneododongeaaFieldRefH
import Derived.Test.YtjaneododongeaaAny
namespace Go.Proofs.Ytjaneododongeaa
open Go Go.RowKit
set_option linter.unusedSimpArgs false
set_option linter.unusedVariables false
def smallF (n : Nat) : Nat → BitVec 8 := fun i => BitVec.ofNat 8 (n / 256 ^ i)
theorem smallF_nat (n i : Nat) : (smallF n i).toNat = n / 256 ^ i % 256 := by simp [smallF]
theorem smallF_n8 (n i : Nat) : n8 (smallF n i) = ((n / 256 ^ i % 256 : Nat) : Int) := by
  rw [← smallF_nat]
  unfold n8
  rfl
theorem num_digits (n : Nat) : ∀ k, E5.num (smallF n) k = n % 256 ^ k
  | 0 => by simp [E5.num, Nat.mod_one]
  | k + 1 => by
    show E5.num (smallF n) k + (smallF n k).toNat * 256 ^ k = _
    rw [num_digits n k, smallF_nat, Nat.pow_succ, Nat.mod_mul, Nat.mul_comm]
theorem small_nought {n i : Nat} (h : n < 4294967296) (hi : 4 ≤ i) : n / 256 ^ i % 256 = 0 := by
  have e : (256 : Nat) ^ 4 ≤ 256 ^ i := Nat.pow_le_pow_right (by decide) hi
  have e4 : (256 : Nat) ^ 4 = 4294967296 := by decide
  rw [Nat.div_eq_of_lt (by omega)]
def litF (z0 z1 z2 z3 : Int) (i : Nat) : Value := .int .u8 (if i = 0 then z0 else if i = 1 then z1 else if i = 2 then z2 else if i = 3 then z3 else 0)
theorem lit_small {n : Nat} (hn : n < 4294967296) {z0 z1 z2 z3 : Int} (h0 : z0 = ((n % 256 : Nat) : Int)) (h1 : z1 = ((n / 256 % 256 : Nat) : Int)) (h2 : z2 = ((n / 65536 % 256 : Nat) : Int)) (h3 : z3 = ((n / 16777216 % 256 : Nat) : Int)) :
    (#[.int .u8 z0, .int .u8 z1, .int .u8 z2, .int .u8 z3, .int .u8 0, .int .u8 0, .int .u8 0, .int .u8 0, .int .u8 0, .int .u8 0, .int .u8 0, .int .u8 0, .int .u8 0, .int .u8 0, .int .u8 0, .int .u8 0, .int .u8 0, .int .u8 0, .int .u8 0, .int .u8 0, .int .u8 0, .int .u8 0, .int .u8 0, .int .u8 0, .int .u8 0, .int .u8 0, .int .u8 0, .int .u8 0, .int .u8 0, .int .u8 0, .int .u8 0, .int .u8 0] : Array Value) = b32 (smallF n) := by
  have e : (#[.int .u8 z0, .int .u8 z1, .int .u8 z2, .int .u8 z3, .int .u8 0, .int .u8 0, .int .u8 0, .int .u8 0, .int .u8 0, .int .u8 0, .int .u8 0, .int .u8 0, .int .u8 0, .int .u8 0, .int .u8 0, .int .u8 0, .int .u8 0, .int .u8 0, .int .u8 0, .int .u8 0, .int .u8 0, .int .u8 0, .int .u8 0, .int .u8 0, .int .u8 0, .int .u8 0, .int .u8 0, .int .u8 0, .int .u8 0, .int .u8 0, .int .u8 0, .int .u8 0] : Array Value) = ((List.range 32).map (litF z0 z1 z2 z3)).toArray := rfl
  rw [e]
  unfold b32
  congr 1
  refine List.map_congr_left (fun i hi => ?_)
  unfold litF
  rw [smallF_n8]
  congr 1
  by_cases i0 : i = 0
  · subst i0; rw [if_pos rfl, h0]; try simp
  rw [if_neg i0]
  by_cases i1 : i = 1
  · subst i1; rw [if_pos rfl, h1]; try simp
  rw [if_neg i1]
  by_cases i2 : i = 2
  · subst i2; rw [if_pos rfl, h2]
  rw [if_neg i2]
  by_cases i3 : i = 3
  · subst i3; rw [if_pos rfl, h3]
  rw [if_neg i3, small_nought hn (by omega)]
  rfl
/-- Of a small number's bytes. -/
theorem of_small {n : Nat} (hn : n < 4294967296) {z0 z1 z2 z3 : Int} (h0 : z0 = ((n % 256 : Nat) : Int)) (h1 : z1 = ((n / 256 % 256 : Nat) : Int)) (h2 : z2 = ((n / 65536 % 256 : Nat) : Int)) (h3 : z3 = ((n / 16777216 % 256 : Nat) : Int)) (w : World) :
    Calls Try.prog 8 #[.agg #[.int .u8 z0, .int .u8 z1, .int .u8 z2, .int .u8 z3, .int .u8 0, .int .u8 0, .int .u8 0, .int .u8 0, .int .u8 0, .int .u8 0, .int .u8 0, .int .u8 0, .int .u8 0, .int .u8 0, .int .u8 0, .int .u8 0, .int .u8 0, .int .u8 0, .int .u8 0, .int .u8 0, .int .u8 0, .int .u8 0, .int .u8 0, .int .u8 0, .int .u8 0, .int .u8 0, .int .u8 0, .int .u8 0, .int .u8 0, .int .u8 0, .int .u8 0, .int .u8 0]] w fun e w' =>
      ∃ X : E5, e = .returned X.v ∧ E5.Ok X ∧ X.val % E5.p = n ∧ Below w.heap.size w w' := by
  rw [lit_small hn h0 h1 h2 h3]
  refine (ofE_any (smallF n) w).mono ?_
  rintro e w' ⟨rfl, hb⟩
  refine ⟨_, rfl, of_ok _, ?_, hb⟩
  rw [E5.of_val, num_digits]
  have e1 : (256 : Nat) ^ 32 = 2 ^ 256 := by decide
  have e2 : n % 2 ^ 256 = n := Nat.mod_eq_of_lt (Nat.lt_of_lt_of_le hn (by decide))
  have e3 : n % 2 ^ 255 = n := Nat.mod_eq_of_lt (Nat.lt_of_lt_of_le hn (by decide))
  rw [e1, e2, e3]
  exact Nat.mod_eq_of_lt (Nat.lt_of_lt_of_le hn (by unfold E5.p; decide))
theorem small0 (w : World) : Calls Try.prog 20 #[.int .i64 0] w fun e w' => e = .returned (.string (strOf (fun _ => 0#8) 32)) ∧ Below w.heap.size w w' := by
  have h := small_any 0#8 w
  have e : n8 0#8 = 0 := by unfold n8; rfl
  rw [e] at h
  refine h.mono ?_
  rintro e w' ⟨rfl, hb⟩
  refine ⟨?_, hb⟩
  have q : strOf (fun i => if i = 0 then 0#8 else 0#8) 32 = strOf (fun _ => 0#8) 32 := (strOf_eq _ _ 32).2 (fun i _ => by split <;> rfl)
  rw [q]
theorem cut30 (f : Nat → BitVec 8) : (strOf f 32).extract 0 30 = strOf f 30 := by
  apply ByteArray.ext
  rw [ByteArray.data_extract]
  apply Array.ext_getElem?
  intro i
  show ((strL f 32).toArray.extract 0 30)[i]? = (strL f 30).toArray[i]?
  by_cases h : i < 30
  · have : i < 32 := by omega
    simp [strL, h, this]
  · rw [Array.getElem?_eq_none (by simp [strL]; omega), Array.getElem?_eq_none (by simp [strL]; omega)]
theorem run_cut30 (f : Nat → BitVec 8) (w : World) : (Instr.sliceAt 9 (.string (strOf f 32)) none (some (.int .i64 30)) none).run Try.prog w = .ok (.string (strOf f 30)) w := by
  have hu : Try.prog.underlying 9 = some .string := by kernel_rfl
  have hs := strOf_size f 32
  simp [Instr.sliceAt, Sem.run_bind, run_underlying hu, Instr.sliceBounds, go_sem, hs, cut30]
/-- Two bytes, and thirty noughts. -/
theorem joined {n : Nat} (hn : n < 65536) : strOf (smallF n) 2 ++ strOf (fun _ => 0#8) 30 = numS n := by
  rw [strOf_append]
  unfold numS
  refine (strOf_eq _ _ 32).2 (fun i hi => ?_)
  by_cases h : i < 2
  · rw [if_pos h]; rfl
  · rw [if_neg h]
    apply BitVec.eq_of_toNat_eq
    rw [BitVec.toNat_ofNat]
    have e : (256 : Nat) ^ 2 ≤ 256 ^ i := Nat.pow_le_pow_right (by decide) (by omega)
    have e4 : (256 : Nat) ^ 2 = 65536 := by decide
    rw [Nat.div_eq_of_lt (by omega)]
    rfl
/-- The two bytes that have just been laid, as a text: in every later world. -/
theorem conv2 {n : Nat} {z0 z1 : Int} (h0 : z0 = ((n % 256 : Nat) : Int)) (h1 : z1 = ((n / 256 % 256 : Nat) : Int)) (B : Nat) (w : World) (h : w.heap[B]? = some (.cells #[.int .u8 z0, .int .u8 z1] 5 (0, 0))) :
    (convert 29 9 (.slice (some ⟨B, 0, none⟩) 2 2)).run Try.prog w = .ok (.string (strOf (smallF n) 2)) w := by
  refine conv_str (smallF n) B 0 2 2 w (fun i hi => ?_)
  rw [cell_of_row _ _ _ _ _ _ h, smallF_n8, Nat.zero_add]
  rcases (by omega : i = 0 ∨ i = 1) with rfl | rfl
  · simp [h0]
  · simp [h1]
end Go.Proofs.Ytjaneododongeaa
