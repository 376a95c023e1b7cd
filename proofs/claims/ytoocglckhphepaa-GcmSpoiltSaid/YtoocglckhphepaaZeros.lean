/-
  TWELVE NOUGHTS BEHIND WHAT IS OWNED ('append(b, make([]byte, 12)...)').
-/
import Derived.Test.YtoocglckhphepaaOwn
namespace Go.Proofs.Ytoocglckhphepaa
open Go Go.RowKit
set_option maxRecDepth 100000
set_option linter.unusedSimpArgs false
theorem zeros12 : Builtin.zeroCells (Value.cells (.int .u8 0)) 12 = (firsts (fun _ => 0#8) 12).toArray := by
  have e : n8 0#8 = 0 := by unfold n8; rfl
  simp [firsts, e]
  first | rfl | kernel_rfl | with_unfolding_all rfl | simp [Builtin.zeroCells, Value.cells]
theorem append_same (ty : TypeId) (base : Option Addr) (n cap : Nat) (w : World) (hn : n ≤ 199999999999988) :
    (Builtin.append_ #[25, 3] ty #[.slice base n cap, .int .i64 12]).run Try.prog w = (Builtin.append_ #[25, 9] ty #[.slice base n cap, .string (strOf (fun _ => 0#8) 12)]).run Try.prog w := by
  obtain ⟨i, hi, hz, hsz, hby⟩ := info_u8'
  have h1 := under_bytes
  have h2 : Try.prog.underlying 3 = some (.int .i64) := by kernel_rfl
  have h3 : Try.prog.underlying 9 = some .string := by kernel_rfl
  have hs := strOf_size (fun _ => 0#8) 12
  have hf : ∀ w', (Builtin.firstCells 1 12 (.string (strOf (fun _ => 0#8) 12))).run Try.prog w' = .ok (firsts (fun _ => 0#8) 12).toArray w' := fun w' => by
    have h := firstCells_string (P := Try.prog) (strOf (fun _ => 0#8) 12) w'
    rw [hs, byteCells_str] at h
    exact h
  have hl : ∀ w', (Builtin.lenOf (.string (strOf (fun _ => 0#8) 12))).run Try.prog w' = .ok 12 w' := fun w' => by simp [Builtin.lenOf, hs]
  have hw : IntKind.i64.wrap 12 = 12 := by decide
  generalize strOf (fun _ => 0#8) 12 = S at *
  by_cases hroom : n + 12 ≤ cap
  · simp [Builtin.append_, run_underlying h1, run_underlying h2, run_underlying h3, sizeOf, typeInfo, zeroValue, hi, hz, hsz, hby, hl, hf, hw, hroom, zeros12, asInt, asIntOf]
  · have h63' : ¬ (9223372036854775807 < ((n : Int) + 12)) := by omega
    have h48 := growslice_fits_wide (need := n + 12) (old := cap) (bytes := 1) (by omega) (by omega)
    rw [Nat.mul_one] at h48
    have h48' : ¬ (281474976710656 < Builtin.nextslicecap (n + 12) cap) := by omega
    simp [Builtin.append_, run_underlying h1, run_underlying h2, run_underlying h3, sizeOf, typeInfo, zeroValue, hi, hz, hsz, hby, hl, hf, hw, hroom, zeros12, asInt, asIntOf, h63', h48', h48]
    try (intro h; exfalso; omega)
theorem run_append_zeros {B n : Nat} {v : Value} {f : Nat → BitVec 8} {w : World} (ty : TypeId) (h : Own B v n f w) (hn : n ≤ 199999999999988) :
    ∃ v' w', (Builtin.append_ #[25, 3] ty #[v, .int .i64 12]).run Try.prog w = .ok v' w' ∧ Own B v' (n + 12) (joinb f n (fun _ => 0#8)) w' ∧ GrownV w w' v v' := by
  obtain ⟨v', w', h1, h2, h3⟩ := run_append_bytes ty h (src_str (fun _ => 0#8) 12 w) (by omega)
  refine ⟨v', w', ?_, h2, h3⟩
  rcases h.row.2 with ⟨rfl, _⟩ | ⟨b, cap, cur, rfl, _⟩
  · rw [append_same ty none 0 0 w (by omega)]
    obtain rfl : n = 0 := by assumption
    exact h1
  · rw [append_same ty _ n cap w hn]; exact h1
theorem wpList_append_zeros {ops : Array Oper} {rest : List Oper} {o : Oper} {a : Act} {w : World} {Q : Exit → Act → World → Prop} (hgd : o.guard = none) (s x : Operand)
    (ho : o.op = .call { callee := .builtin .append, args := #[s, x], argTypes := #[25, 3] })
    {B n : Nat} {v : Value} {f : Nat → BitVec 8} (hs : a.eval s = v) (hx : a.eval x = .int .i64 12) (h : Own B v n f w) (hn : n ≤ 199999999999988)
    (hk : ∀ v' w', Own B v' (n + 12) (joinb f n (fun _ => 0#8)) w' → GrownV w w' v v' → wpList Try.prog ops Q rest (a.put o.dst v') w') : wpList Try.prog ops Q (o :: rest) a w :=
  wpList_plain hgd fun _ hK => by
    obtain ⟨v', w', hr, h2, h3⟩ := run_append_zeros o.type h hn
    unfold Oper.wp execOp
    simp only [ho, resolve, invoke, builtin, Sem.run_bind, Sem.run_pure, Result.andThen_ok, List.map_toArray, List.map_cons, List.map_nil, hs, hx, hr]
    exact hK _ _ (hk v' w' h2 h3)
end Go.Proofs.Ytoocglckhphepaa
