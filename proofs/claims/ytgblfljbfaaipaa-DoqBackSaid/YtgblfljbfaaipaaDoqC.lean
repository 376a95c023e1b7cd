/-
  THE DOCUMENT'S READER: its calls over the same bytes.
-/
import Derived.Test.YtgblfljbfaaipaaDoqA
import Derived.Test.YtgblfljbfaaipaaStrB
namespace Go.Proofs.Ytgblfljbfaaipaa
open Go Go.RowKit Go.BigFrame
set_option linter.unusedSimpArgs false
set_option linter.unusedVariables false
def drC (S : ByteArray) (over : Bool) : Array Value := #[.string S, .bool over]
def DT : TypeId := 40
/-- The document's reader in block d. -/
def Doc (d : Nat) (over : Bool) (n : Nat) (f : Nat → BitVec 8) (w : World) : Prop := w.heap[d]? = some (.cells (drC (strOf f n) over) DT (0, 0))
theorem Doc.lt {d n : Nat} {over : Bool} {f : Nat → BitVec 8} {w : World} (h : Doc d over n f w) : d < w.heap.size := lt_row h
theorem Doc.c0 {d n : Nat} {over : Bool} {f : Nat → BitVec 8} {w : World} (h : Doc d over n f w) : w.cell? ⟨d, 0, none⟩ = some (.string (strOf f n)) := by rw [cell_of_row _ _ _ _ _ _ h]; rfl
theorem Doc.c1 {d n : Nat} {over : Bool} {f : Nat → BitVec 8} {w : World} (h : Doc d over n f w) : w.cell? ⟨d, 1, none⟩ = some (.bool over) := by rw [cell_of_row _ _ _ _ _ _ h]; rfl
theorem rowSet_drew {w w' : World} {B : Nat} {T : TypeId} {c : Array Value} (h : RowSet w B T c w') : RowSet w B T c w'.drew :=
  ⟨h.row, h.other, h.size, fun b hb => (h.below b hb).drew⟩
theorem rowSet_same {w : World} {B : Nat} {T : TypeId} {c : Array Value} (h : w.heap[B]? = some (.cells c T (0, 0))) : RowSet w B T c w :=
  ⟨h, fun _ _ => rfl, rfl, fun _ _ => Below.refl _ _⟩
theorem str_none (f : Nat → BitVec 8) (n : Nat) : ((strOf f n).toList == []) = decide (n = 0) := by
  rw [ByteArray.toList_eq]
  show (strL f n == []) = _
  have := strL_length f n
  cases h : strL f n with
  | nil => rw [h] at this; simp at this; rw [decide_eq_true this.symm]; rfl
  | cons a l => rw [h] at this; simp at this; rw [decide_eq_false (by omega)]; rfl
theorem dfeed_over (d n m : Nat) (f g : Nat → BitVec 8) (w : World) (h : Doc d true n f w) :
    Calls Try.prog 13 #[.pointer (some ⟨d, 0, none⟩), .string (strOf g m)] w fun e w' => e = .returned (.int .i64 10) ∧ w = w' := by
  have c0 := h.c0
  have c1 := h.c1
  generalize strOf g m = S
  generalize strOf f n = S at *
  go_enter Try.func13, Try.ntmps13
  go_wp2_with fail
  go_ret
  exact ⟨rfl, rfl⟩
theorem dfeed_full (d n m : Nat) (f g : Nat → BitVec 8) (w : World) (h : Doc d false n f w) (hn : n ≤ 1048576) (hm : 1048576 < n + m) (hm2 : m ≤ 1000000000) :
    Calls Try.prog 13 #[.pointer (some ⟨d, 0, none⟩), .string (strOf g m)] w fun e w' => e = .returned (.int .i64 6) ∧ w = w' := by
  have c0 := h.c0
  have c1 := h.c1
  have e1 := strOf_size g m
  have e2 := strOf_size f n
  generalize strOf g m = S at *
  generalize strOf f n = T at *
  have hb : (m : Int) > 1048576 - (n : Int) := by omega
  go_enter Try.func13, Try.ntmps13
  go_wp2_with fail
  go_ret
  exact ⟨rfl, rfl⟩
theorem dfeed_ok (d n m : Nat) (f g : Nat → BitVec 8) (w : World) (h : Doc d false n f w) (hm : n + m ≤ 1048576) :
    Calls Try.prog 13 #[.pointer (some ⟨d, 0, none⟩), .string (strOf g m)] w fun e w' => e = .returned (.int .i64 0) ∧ RowSet w d DT (drC (strOf (joinb f n g) (n + m)) false) w' := by
  have H := Lib.hid h
  have c0 := h.c0
  have c1 := h.c1
  have f0 : w.frozen? ⟨d, 0, none⟩ = false := frozen_of_row _ _ _ _ _ h
  have e1 := strOf_size g m
  have e2 := strOf_size f n
  have e3 := str_join f g (joinb f n g) n m (fun i hi => by simp [joinb, hi]) (fun i hi => by unfold joinb; rw [if_neg (by omega), show n + i - n = i by omega])
  have S1 := Lib.hid (rowSet_cell w d 0 DT (drC (strOf f n) false) (.string (strOf (joinb f n g) (n + m))) h)
  have hb : ¬ ((m : Int) > 1048576 - (n : Int)) := by omega
  have hn : n ≤ 1048576 := by omega
  have hs : ¬ 9223372036854775807 < n + m := by omega
  clear h
  generalize strOf g m = S at *
  generalize strOf f n = T at *
  generalize strOf (joinb f n g) (n + m) = U at *
  go_enter Try.func13, Try.ntmps13
  go_wp2_with fail
  go_ret
  exact ⟨rfl, S1.out⟩
theorem dend_any (d n : Nat) (over : Bool) (f : Nat → BitVec 8) (w : World) (h : Doc d over n f w) :
    Calls Try.prog 12 #[.pointer (some ⟨d, 0, none⟩)] w fun e w' => e = .returned (.int .i64 (if 0 < n then 2 else 0)) ∧ RowSet w d DT (drC (strOf f n) true) w' := by
  have f1 : w.frozen? ⟨d, 1, none⟩ = false := frozen_of_row _ _ _ _ _ h
  have c1 := h.c1
  have S1 := Lib.hid (rowSet_cell w d 1 DT (drC (strOf f n) over) (.bool true) h)
  have c0 := h.c0
  have c0' : (w.setCell ⟨d, 1, none⟩ (.bool true)).cell? ⟨d, 0, none⟩ = some (.string (strOf f n)) := by rw [cell_of_row _ _ _ _ _ _ S1.out.row]; rfl
  clear h
  by_cases hn : 0 < n
  · rw [if_pos hn]
    have hz := str_none f n
    rw [decide_eq_false (by omega : ¬ n = 0)] at hz
    generalize strOf f n = S at *
    go_enter Try.func12, Try.ntmps12
    go_wp2_with fail
    go_ret
    exact ⟨rfl, S1.out⟩
  · rw [if_neg hn]
    have hz := str_none f n
    rw [decide_eq_true (by omega : n = 0)] at hz
    generalize strOf f n = S at *
    go_enter Try.func12, Try.ntmps12
    go_wp2_with fail
    go_ret
    exact ⟨rfl, S1.out⟩
theorem dnext_few (d n : Nat) (over : Bool) (f : Nat → BitVec 8) (w : World) (h : Doc d over n f w) (hn : n < 2) :
    Calls Try.prog 14 #[.pointer (some ⟨d, 0, none⟩)] w fun e w' => e = .returned (.tuple #[.string ⟨#[]⟩, .bool false]) ∧ w = w' := by
  have c0 := h.c0
  have e2 := strOf_size f n
  generalize strOf f n = S at *
  clear h
  have h1 : (n : Int) < 2 := by omega
  go_enter Try.func14, Try.ntmps14
  go_wp2_with fail
  go_ret2
  exact ⟨rfl, rfl⟩
theorem cnt_i64 (x y : BitVec 8) : wrap64 (wrap64 (wrap64 (n8 x) * 256) + wrap64 (n8 y)) = ((x.toNat * 256 + y.toNat : Nat) : Int) := by
  have := x.isLt
  have := y.isLt
  rw [n8_nat, n8_nat]
  unfold wrap64
  omega
set_option maxHeartbeats 2000000 in
theorem dnext_none (d n : Nat) (over : Bool) (f : Nat → BitVec 8) (w : World) (h : Doc d over n f w) (hn : 2 ≤ n) (hN : n ≤ 1048576) (hc : cnt f = 0 ∨ n < 2 + cnt f) :
    Calls Try.prog 14 #[.pointer (some ⟨d, 0, none⟩)] w fun e w' => e = .returned (.tuple #[.string ⟨#[]⟩, .bool false]) ∧ ∃ k, w' = w.drewN k := by
  have c0 := h.c0
  have e2 := strOf_size f n
  have i0 : ∀ w' : World, (Instr.index 9 (.string (strOf f n)) (.int .i64 0)).run Try.prog w' = .ok (.int .u8 (n8 (f 0))) w' := run_at_str f n 0 (by omega)
  have i1 : ∀ w' : World, (Instr.index 9 (.string (strOf f n)) (.int .i64 1)).run Try.prog w' = .ok (.int .u8 (n8 (f 1))) w' := run_at_str f n 1 (by omega)
  generalize strOf f n = S at *
  clear h
  have hk := cnt_i64 (f 0) (f 1)
  have hlt := cnt_lt f
  generalize hC : cnt f = C at *
  unfold cnt at hC
  rw [hC] at hk
  clear hC
  have h1 : ¬ (n : Int) < 2 := by omega
  by_cases hz : C = 0
  · subst hz
    clear hc
    go_enter Try.func14, Try.ntmps14
    go_upto_region 3 with (fail)
    go_region
    try simp only [hk]
    go_wp2_with fail
    go_ret2
    exact ⟨rfl, _, rfl⟩
  · have hgt : (n : Int) < 2 + (C : Int) := by omega
    have h4 : (C : Int) ≠ 0 := by omega
    have h6 : wrap64 (2 + (C : Int)) = 2 + (C : Int) := by unfold wrap64; omega
    clear hc
    go_enter Try.func14, Try.ntmps14
    go_upto_region 3 with (fail)
    go_region
    try simp only [hk]
    go_wp2_with fail
    go_ret2
    exact ⟨rfl, _, rfl⟩
set_option maxHeartbeats 2000000 in
theorem dnext_ok (d n : Nat) (over : Bool) (f : Nat → BitVec 8) (w : World) (h : Doc d over n f w) (hN : n ≤ 1048576) (hc : cnt f ≠ 0) (hn : 2 + cnt f ≤ n) :
    Calls Try.prog 14 #[.pointer (some ⟨d, 0, none⟩)] w fun e w' => e = .returned (.tuple #[.string (strOf (fun i => f (2 + i)) (cnt f)), .bool true]) ∧ RowSet w d DT (drC (strOf (fun i => f (2 + cnt f + i)) (n - (2 + cnt f))) over) w' := by
  have c0 := h.c0
  have f0 : w.frozen? ⟨d, 0, none⟩ = false := frozen_of_row _ _ _ _ _ h
  have e2 := strOf_size f n
  have i0 : ∀ w' : World, (Instr.index 9 (.string (strOf f n)) (.int .i64 0)).run Try.prog w' = .ok (.int .u8 (n8 (f 0))) w' := run_at_str f n 0 (by omega)
  have i1 : ∀ w' : World, (Instr.index 9 (.string (strOf f n)) (.int .i64 1)).run Try.prog w' = .ok (.int .u8 (n8 (f 1))) w' := run_at_str f n 1 (by omega)
  have hk := cnt_i64 (f 0) (f 1)
  have hlt := cnt_lt f
  generalize hC : cnt f = C at *
  unfold cnt at hC
  rw [hC] at hk
  clear hC
  have s1 := run_str_mid f 2 (2 + C) n 2 (2 + (C : Int)) rfl (by omega) (by omega) hn
  rw [show 2 + C - 2 = C by omega] at s1
  have s3 := run_str_from f n (2 + C) (2 + (C : Int)) (by omega) hn
  have H := Lib.hid h
  have S1 := Lib.hid (rowSet_cell w d 0 DT (drC (strOf f n) over) (.string (strOf (fun i => f (2 + C + i)) (n - (2 + C)))) h)
  generalize strOf f n = S at *
  generalize strOf (fun i => f (2 + i)) C = U at *
  generalize strOf (fun i => f (2 + C + i)) (n - (2 + C)) = V at *
  have c0d : w.drew.cell? ⟨d, 0, none⟩ = some (.string S) := c0
  have f0d : w.drew.frozen? ⟨d, 0, none⟩ = false := f0
  clear h
  have h1 : ¬ (n : Int) < 2 := by omega
  have hgt : ¬ (n : Int) < 2 + (C : Int) := by omega
  have h4 : (C : Int) ≠ 0 := by omega
  have h6 : wrap64 (2 + (C : Int)) = 2 + (C : Int) := by unfold wrap64; omega
  go_enter Try.func14, Try.ntmps14
  go_upto_region 3 with (fail)
  go_region
  try simp only [hk]
  go_wp2_with fail
  go_ret2
  exact ⟨rfl, rowSet_drew S1.out⟩
theorem strOf_two (x y : BitVec 8) : True := trivial
theorem docFrame_none (w : World) : Calls Try.prog 10 #[.string ⟨#[]⟩] w fun e w' => e = .returned (.tuple #[.string ⟨#[]⟩, .int .i64 1]) ∧ w = w' := by
  go_enter Try.func10, Try.ntmps10
  go_wp2_with fail
  go_ret2
  exact ⟨rfl, rfl⟩
theorem docFrame_big (f : Nat → BitVec 8) (m : Nat) (hm : 65535 < m) (w : World) : Calls Try.prog 10 #[.string (strOf f m)] w fun e w' => e = .returned (.tuple #[.string ⟨#[]⟩, .int .i64 5]) ∧ w = w' := by
  have e2 := strOf_size f m
  generalize strOf f m = S at *
  have h1 : (m : Int) > 65535 := by omega
  go_enter Try.func10, Try.ntmps10
  go_wp2_with fail
  go_ret2
  exact ⟨rfl, rfl⟩
end Go.Proofs.Ytgblfljbfaaipaa
