/-
  NOUGHTS BEHIND WHAT IS OWNED, AS MANY AS ONE LIKES ('append(b, make([]byte, k)...)').
-/
import Derived.Test.YtcgbhcmgddgheabDoorOwn
namespace Go.Proofs.YtcgbhcmgddgheabDoor
open Go Go.RowKit
set_option maxRecDepth 100000
set_option linter.unusedSimpArgs false
set_option linter.unusedVariables false
theorem zerosK (k : Nat) : Builtin.zeroCells (Value.cells (.int .u8 0)) k = (firsts (fun _ => 0#8) k).toArray := by
  have e : n8 0#8 = 0 := by unfold n8; rfl
  apply Array.ext_getElem?
  intro i
  by_cases h : i < k
  · simp [Builtin.zeroCells, Value.cells, firsts, e, Nat.mod_one, h]
  · simp [Builtin.zeroCells, Value.cells, firsts, e, Nat.mod_one, h]
theorem append_same_k (ty : TypeId) (base : Option Addr) (n cap k : Nat) (w : World) (hn : n ≤ 199999999900000) (hk : k ≤ 70000) (hk1 : 1 ≤ k) :
    (Builtin.append_ #[28, 3] ty #[.slice base n cap, .int .i64 (k : Int)]).run Tryd.prog w = (Builtin.append_ #[28, 9] ty #[.slice base n cap, .string (strOf (fun _ => 0#8) k)]).run Tryd.prog w := by
  obtain ⟨i, hi, hz, hsz, hby⟩ := info_u8'
  have h1 := under_bytes
  have h2 : Tryd.prog.underlying 3 = some (.int .i64) := by kernel_rfl
  have h3 : Tryd.prog.underlying 9 = some .string := by kernel_rfl
  have hs := strOf_size (fun _ => 0#8) k
  have hf : ∀ w', (Builtin.firstCells 1 k (.string (strOf (fun _ => 0#8) k))).run Tryd.prog w' = .ok (firsts (fun _ => 0#8) k).toArray w' := fun w' => by
    have h := firstCells_string (P := Tryd.prog) (strOf (fun _ => 0#8) k) w'
    rw [hs, byteCells_str] at h
    exact h
  have hl : ∀ w', (Builtin.lenOf (.string (strOf (fun _ => 0#8) k))).run Tryd.prog w' = .ok k w' := fun w' => by simp [Builtin.lenOf, hs]
  have hw : IntKind.i64.wrap (k : Int) = (k : Int) := by rw [IntKind.wrap_i64]; omega
  generalize strOf (fun _ => 0#8) k = S at *
  have q1 : ¬ ((k : Int) < 0) := by omega
  have q2 : ¬ ((281474976710656 : Int) < (k : Int)) := by omega
  have q3 : ¬ k = 0 := by omega
  by_cases hroom : n + k ≤ cap
  · simp [Builtin.append_, run_underlying h1, run_underlying h2, run_underlying h3, sizeOf, typeInfo, zeroValue, hi, hz, hsz, hby, hl, hf, hw, hroom, zerosK k, asInt, asIntOf, q1, q2, q3]
  · have h63' : ¬ (9223372036854775807 < ((n : Int) + (k : Int))) := by omega
    have h48 := growslice_fits_wide (need := n + k) (old := cap) (bytes := 1) (by omega) (by omega)
    rw [Nat.mul_one] at h48
    have h48' : ¬ (281474976710656 < Builtin.nextslicecap (n + k) cap) := by omega
    simp [Builtin.append_, run_underlying h1, run_underlying h2, run_underlying h3, sizeOf, typeInfo, zeroValue, hi, hz, hsz, hby, hl, hf, hw, hroom, zerosK k, asInt, asIntOf, q1, q2, q3, h63', h48', h48]
    try (intro h; exfalso; omega)
theorem append_same_0 (ty : TypeId) (base : Option Addr) (n cap : Nat) (w : World) (hn : n ≤ 199999999900000) (hnc : n ≤ cap) :
    (Builtin.append_ #[28, 3] ty #[.slice base n cap, .int .i64 0]).run Tryd.prog w = (Builtin.append_ #[28, 9] ty #[.slice base n cap, .string ⟨#[]⟩]).run Tryd.prog w := by
  obtain ⟨i, hi, hz, hsz, hby⟩ := info_u8'
  have h1 := under_bytes
  have h2 : Tryd.prog.underlying 3 = some (.int .i64) := by kernel_rfl
  have h3 : Tryd.prog.underlying 9 = some .string := by kernel_rfl
  have hl : ∀ w', (Builtin.lenOf (.string (⟨#[]⟩ : ByteArray))).run Tryd.prog w' = .ok 0 w' := fun w' => by simp [Builtin.lenOf]; rfl
  have hf : ∀ w', (Builtin.firstCells 1 0 (.string (⟨#[]⟩ : ByteArray))).run Tryd.prog w' = .ok #[] w' := fun w' => firstCells_string (P := Tryd.prog) (⟨#[]⟩ : ByteArray) w'
  have hw : IntKind.i64.wrap 0 = 0 := by decide
  simp [Builtin.append_, run_underlying h1, run_underlying h2, run_underlying h3, sizeOf, typeInfo, zeroValue, hi, hz, hsz, hby, hl, hf, hw, asInt, asIntOf, hnc]
theorem run_append_noughts {B n : Nat} {v : Value} {f : Nat → BitVec 8} {w : World} (ty : TypeId) (k : Nat) (hk0 : k ≤ 70000) (hk1 : 1 ≤ k) (h : Own B v n f w) (hn : n ≤ 199999999900000) :
    ∃ v' w', (Builtin.append_ #[28, 3] ty #[v, .int .i64 (k : Int)]).run Tryd.prog w = .ok v' w' ∧ Own B v' (n + k) (joinb f n (fun _ => 0#8)) w' ∧ GrownV w w' v v' := by
  obtain ⟨v', w', h1, h2, h3⟩ := run_append_bytes ty h (src_str (fun _ => 0#8) k w) (by omega)
  refine ⟨v', w', ?_, h2, h3⟩
  rcases h.row.2 with ⟨rfl, _⟩ | ⟨b, cap, cur, rfl, _⟩
  · rw [append_same_k ty none 0 0 k w (by omega) hk0 hk1]
    obtain rfl : n = 0 := by assumption
    exact h1
  · rw [append_same_k ty _ n cap k w (by omega) hk0 hk1]; exact h1
theorem run_append_noughts' {B n : Nat} {v : Value} {f : Nat → BitVec 8} {w : World} (ty : TypeId) (k : Nat) (hk0 : k ≤ 70000) (h : Own B v n f w) (hn : n ≤ 199999999900000) :
    ∃ v' w', (Builtin.append_ #[28, 3] ty #[v, .int .i64 (k : Int)]).run Tryd.prog w = .ok v' w' ∧ Own B v' (n + k) (joinb f n (fun _ => 0#8)) w' ∧ GrownV w w' v v' := by
  by_cases hk1 : 1 ≤ k
  · exact run_append_noughts ty k hk0 hk1 h hn
  · obtain rfl : k = 0 := by omega
    obtain ⟨v', w', h1, h2, h3⟩ := run_append_bytes ty h (src_str (fun _ => 0#8) 0 w) (by omega)
    refine ⟨v', w', ?_, h2, h3⟩
    have e : strOf (fun _ => 0#8) 0 = ⟨#[]⟩ := rfl
    rw [e] at h1
    rcases h.row.2 with ⟨rfl, _⟩ | ⟨b, cap, cur, rfl, _, _, hnc, _⟩
    · obtain rfl : n = 0 := by assumption
      exact (append_same_0 ty none 0 0 w (by omega) (Nat.le_refl _)).trans h1
    · exact (append_same_0 ty _ n cap w (by omega) hnc).trans h1
theorem wpList_append_noughts {ops : Array Oper} {rest : List Oper} {o : Oper} {a : Act} {w : World} {Q : Exit → Act → World → Prop} (k : Nat) (hk0 : k ≤ 70000) (hw : Region.wanted o (yielded ops a.tmps) = true) (s x : Operand)
    (ho : o.op = .call { callee := .builtin .append, args := #[s, x], argTypes := #[28, 3] })
    {B n : Nat} {v : Value} {f : Nat → BitVec 8} (hs : a.eval s = v) (hx : a.eval x = .int .i64 (k : Int)) (h : Own B v n f w) (hn : n ≤ 199999999900000)
    (hk : ∀ v' w', Own B v' (n + k) (joinb f n (fun _ => 0#8)) w' → GrownV w w' v v' → wpList Tryd.prog ops Q rest (a.put o.dst v') w') : wpList Tryd.prog ops Q (o :: rest) a w :=
  wpList_step fun K hK => by
    rw [if_pos hw]
    obtain ⟨v', w', hr, h2, h3⟩ := run_append_noughts' o.type k hk0 h hn
    unfold Oper.wp execOp
    simp only [ho, resolve, invoke, builtin, Sem.run_bind, Sem.run_pure, Result.andThen_ok, List.map_toArray, List.map_cons, List.map_nil, hs, hx, hr]
    exact hK _ _ (hk v' w' h2 h3)
end Go.Proofs.YtcgbhcmgddgheabDoor
