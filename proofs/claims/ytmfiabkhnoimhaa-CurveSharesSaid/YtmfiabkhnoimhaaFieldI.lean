/-
  NUMBERS AS TEXTS; a row that is read in a region that draws its order; arrays of 32 bytes that came in.
-/
import Derived.Test.YtmfiabkhnoimhaaFieldH
import Derived.Test.YtmfiabkhnoimhaaOpen
namespace Go.Proofs.Ytmfiabkhnoimhaa
open Go Go.RowKit Go.BigFrame Go.ChangeShapes Go.WideShapes
def numS (n : Nat) : ByteArray := strOf (fun i => BitVec.ofNat 8 (n / 256 ^ i)) 32
theorem numS_of {x : E5} (h : E5.Ok x) : strOf x.byte 32 = numS (x.val % E5.p) := by
  refine str_same (fun i hi => ?_)
  apply BitVec.eq_of_toNat_eq
  rw [E5.byte_nat h i hi, BitVec.toNat_ofNat]
/-- A text whose number is known otherwise. -/
theorem quiet_load_row {P : Program} {C : World → Prop} {o : Oper} {a : Act} {w : World} (ty : TypeId) (x : Operand) (ho : o.op = .load ty x)
    (g : Nat) (hx : a.eval x = .pointer (some ⟨g, 0, none⟩)) (t : TypeId) (cs : Array Value) (fr : Nat × Nat) (d : TypeDesc) (hg : w.heap[g]? = some (.cells cs t fr))
    (hu : P.underlying ty = some d) (hd : (match d with | .struct _ | .array _ _ => true | _ => false) = true) (hi : (P.info? ty).map (·.size) = some cs.size) : o.quietAt P a C w (.agg cs) := by
  have h : (execOp a.eval o).run P w = .ok (.value (.agg cs)) w := by
    unfold execOp
    simp only [ho, hx, Instr.loadAt, Instr.sureAddr, Sem.run_bind, Sem.run_pure, Result.andThen_ok, run_loadVar_row w g t ty cs fr d hg hu hd hi]
  unfold Oper.quietAt
  rw [h]
  exact ⟨rfl, rfl⟩
theorem open32 {H : Type} {enc : TypeId × Value → H} {w : World} {base : Nat} {v : Value} {d : DataW H} {p : List MemPlace} (hk : Value.okWide Try.prog w .any base 22 v)
    (h : DataW.Trod enc Try.prog w 0 (fun _ => true) true 22 v d p) : ∃ f, v = .agg (b32 f) := by
  obtain ⟨cs, rfl, hs⟩ := okWide_agg (by kernel_rfl) hk
  have hs32 : cs.size = 32 := hs.trans (by kernel_rfl)
  obtain ⟨fuel, hf⟩ := h
  obtain ⟨f, hc⟩ := trod_bytes (t := 22) (e := 5) (n := 32) (by kernel_rfl) (by kernel_rfl) (by kernel_rfl) hf
  refine ⟨f, ?_⟩
  congr 1
  apply Array.ext_getElem?
  intro i
  by_cases hi : i < 32
  · rw [b32_get f i hi, ← hc i hi]
    simp [Value.cells]
  · rw [Array.getElem?_eq_none (by omega), Array.getElem?_eq_none (by rw [b32_size]; omega)]
theorem of_ok (f : Nat → BitVec 8) : E5.Ok (E5.of f) := (E5.of_red f).ok
end Go.Proofs.Ytmfiabkhnoimhaa
