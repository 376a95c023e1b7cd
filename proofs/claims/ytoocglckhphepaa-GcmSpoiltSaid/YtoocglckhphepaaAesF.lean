/-
  THE CALLS OF PACKAGE aes, SIXTH PART: is there a key.
-/
import Derived.Test.YtoocglckhphepaaAesE
import Derived.Test.YtoocglckhphepaaEq
namespace Go.Proofs.Ytoocglckhphepaa
open Go Go.RowKit Go.BigFrame
set_option maxRecDepth 100000
theorem wpList_run_g {P : Program} {ops : Array Oper} {Q : Exit → Act → World → Prop} {o : Oper} {rest : List Oper} {a : Act} {w w' : World} {v : Value} (hg : Region.wanted o (yielded ops a.tmps) = true)
    (hr : (execOp a.eval o).run P w = .ok (.value v) w') (h : wpList P ops Q rest (a.put o.dst v) w') : wpList P ops Q (o :: rest) a w :=
  wpList_want hg fun _ hK => by unfold Oper.wp; rw [hr]; exact hK _ _ h
def cells44 (ks : Nat → BitVec 32) : List Value := (List.range 44).map fun i => .int .u32 (n32 (ks i))
def zeros44 : List Value := (List.range 44).map fun _ => .int .u32 0
theorem under_11 : Try.prog.underlying 71 = some (.array 11 70) := by kernel_rfl
theorem under_w : Try.prog.underlying 70 = some (.array 4 68) := by kernel_rfl
theorem under_u32 : Try.prog.underlying 68 = some (.int .u32) := by kernel_rfl
theorem size_11 : (Try.prog.info? 71).map (·.size) = some 44 := by kernel_rfl
def lits44 (ks : Nat → BitVec 32) : List Lit := ((List.range 11).map fun r => ((List.range 4).map fun j => [Lit.int .u32 (n32 (ks (r * 4 + j)))]).flatten).flatten
theorem drop_take_range {α : Type} (f : Nat → α) (n m i : Nat) (h : i * m + m ≤ n) : (((List.range n).map f).drop (i * m)).take m = (List.range m).map fun j => f (i * m + j) := by
  apply List.ext_getElem?
  intro j
  by_cases hj : j < m
  · have h1 : i * m + j < n := by omega
    simp [hj, h1]
  · have h2 : m ≤ j := by omega
    simp [h2]
    omega
theorem keyLits_44 (ks : Nat → BitVec 32) : Try.prog.keyLits 3 71 (cells44 ks) = some (lits44 ks) := by
  refine keyLits_array (m := 4) _ under_11 (by kernel_rfl) (by kernel_rfl) (fun r hr => ?_)
  unfold cells44
  rw [drop_take_range _ 44 4 r (by omega)]
  refine keyLits_array (m := 1) (fun j => [Lit.int .u32 (n32 (ks (r * 4 + j)))]) under_w (by kernel_rfl) (by kernel_rfl) (fun j hj => ?_)
  rw [drop_take_one _ _ _ hj]
  exact keyLits_u32 _ under_u32
theorem lits44_inj (ks ls : Nat → BitVec 32) (h : lits44 ks = lits44 ls) : ∀ i, i < 44 → ks i = ls i := by
  have e : ∀ ks : Nat → BitVec 32, lits44 ks = (List.range 44).map fun i => Lit.int .u32 (n32 (ks i)) := fun ks => by kernel_rfl
  rw [e, e] at h
  intro i hi
  have := List.map_inj_left.1 h i (List.mem_range.2 hi)
  simp only [Lit.int.injEq, true_and] at this
  rwa [n32_inj] at this
theorem zeros44_eq : zeros44 = cells44 fun _ => 0#32 := by
  unfold zeros44 cells44
  refine List.map_congr_left (fun i _ => ?_)
  rw [show n32 0#32 = 0 from by unfold n32; rfl]
theorem run_keys (ks : Nat → BitVec 32) (w : World) (hz : ∃ i, i < 44 ∧ ks i ≠ 0#32) : (Op.equalIn 10000 71 (.agg (cells44 ks).toArray) (.agg zeros44.toArray)).run Try.prog w = .ok false w := by
  rw [zeros44_eq]
  have fa : ∀ b : Nat → BitVec 32, (Value.agg (cells44 b).toArray).formed Try.prog 71 = true := fun b => by
    unfold Value.formed
    rw [under_11]
    simp [cells44, show Try.prog.cellsOf 71 = 44 from by kernel_rfl]
  obtain ⟨r, hr, hiff⟩ := run_equalIn_deep (P := Try.prog) 9990 10 71 (by kernel_rfl) w 3 3 _ _ _ _ (fa ks) (fa fun _ => 0#32) (by simpa [Value.cells] using keyLits_44 ks) (by simpa [Value.cells] using keyLits_44 fun _ => 0#32)
  rw [hr]
  congr 1
  cases r with
  | false => rfl
  | true =>
    obtain ⟨i, hi, hne⟩ := hz
    exact absurd (lits44_inj _ _ (hiff.1 rfl) i hi) hne
set_option maxHeartbeats 1000000 in
theorem ready_nil (w : World) : Calls Try.prog 34 #[.pointer none] w fun e w' => e = .returned (.bool false) ∧ w = w' := by
  go_enter Try.func34, Try.ntmps34
  go_wp2
  go_ret
  exact ⟨rfl, rfl⟩
set_option maxHeartbeats 1000000 in
theorem ready_yes (ks : Nat → BitVec 32) (p : Nat) (w : World) (hK : ∀ i, i < 44 → w.cell? ⟨p, i, none⟩ = some (.int .u32 (n32 (ks i)))) (hz : ∃ i, i < 44 ∧ ks i ≠ 0#32) :
    Calls Try.prog 34 #[.pointer (some ⟨p, 0, none⟩)] w fun e w' => e = .returned (.bool true) ∧ w = w' := by
  have hr : w.rangeAt p 0 (cells44 ks) := fun j v hv => by
    have hj : j < 44 := by have := (List.getElem?_eq_some_iff.1 hv).1; simpa [cells44] using this
    rw [Nat.zero_add, hK j hj, ← hv]
    simp [cells44, hj]
  have h1 := run_keys ks w hz
  have H1 := Lib.hid h1
  have HR := Lib.hid hr
  clear hr h1 hK
  go_enter Try.func34, Try.ntmps34
  go_wp2_with (first
    | (refine wpList_run_g (o := ⟨some 9, .load 71 _, _, _, _, _⟩) (v := .agg (cells44 ks).toArray) (w' := w) rfl ?load ?_)
    | (refine wpList_run_g (o := ⟨some 10, .build 71 _, _, _, _, _⟩) (v := .agg zeros44.toArray) (w' := w) rfl (by kernel_rfl) ?_)
    | (refine wpList_run_g (o := ⟨some 11, .binOp .neq 71 _ _ _, _, _, _, _⟩) (v := .bool true) (w' := w) rfl ?neq ?_))
  case load =>
    unfold execOp
    show Sem.run _ (Instr.loadAt 71 (.pointer (some ⟨p, 0, none⟩)) >>= fun v => pure (Next.value v)) w = _
    rw [Sem.run_bind, run_loadAt_mid w p 0 71 (cells44 ks) _ HR.out under_11 rfl size_11]
    rfl
  case neq =>
    rw [H1.out]
    rfl
  go_ret
  exact ⟨rfl, rfl⟩
end Go.Proofs.Ytoocglckhphepaa
