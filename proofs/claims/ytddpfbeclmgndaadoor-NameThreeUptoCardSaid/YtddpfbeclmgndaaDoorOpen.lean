/-
  ARRAYS OF BYTES THAT CAME IN, by value, alone or in a struct.
-/
import Derived.Test.YtddpfbeclmgndaaDoorRowIn
import Derived.Test.YtddpfbeclmgndaaDoorKit
namespace Go.Proofs.YtddpfbeclmgndaaDoor
open Go Go.RowKit Go.ChangeShapes Go.WideShapes
theorem okWide_agg {P : Program} {w : World} {base : Nat} {t : TypeId} {v : Value} (h : (match P.underlying t with | some (.struct _) | some (.array _ _) => true | _ => false) = true) (hk : Value.okWide P w .any base t v) :
    ∃ cs, v = .agg cs ∧ cs.size = P.cellsOf t := by
  unfold Value.okWide at hk
  split at hk
  · obtain ⟨cs, h1, h2, _⟩ := hk; exact ⟨cs, h1, h2⟩
  · obtain ⟨cs, h1, h2, _⟩ := hk; exact ⟨cs, h1, h2⟩
  · rename_i h1 h2
    revert h
    split
    · rename_i f hf; exact absurd hf (h1 f)
    · rename_i a b hf; exact absurd hf (h2 a b)
    · intro h; cases h
/-- The bytes of an array's reading. -/
theorem trod_bytes {H : Type} {enc : TypeId × Value → H} {P : Program} {w : World} {base : Nat} {spare : Nat → Bool} {held : Bool} {fuel : Nat} {t e : TypeId} {n : Nat} {cs : List Value} {x : DataW H × List MemPlace}
    (ht : P.underlying t = some (.array n e)) (he : P.underlying e = some (.int .u8)) (hc : P.cellsOf e = 1) (h : DataW.trod enc P w base spare held fuel t cs = some x) :
    ∃ f : Nat → BitVec 8, ∀ i, i < n → cs[i]? = some (.int .u8 (n8 (f i))) := by
  obtain ⟨xs, m, _, _, _, hl, hf⟩ := DataW.trod_array ht h
  have key : ∀ i, i < n → ∃ z : Int, cs[i]? = some (.int .u8 z) ∧ (Lit.int .u8 z).wf = true := fun i hi => by
    have h1 := hf i hi
    rw [hc, Nat.mul_one, List.getElem?_eq_getElem (by omega)] at h1
    obtain ⟨z, h2, _, h3⟩ := DataW.trod_int he h1
    refine ⟨z, ?_, h3⟩
    have h4 : ((cs.drop i).take 1)[0]? = some (.int .u8 z) := by rw [h2]; rfl
    simpa using h4
  refine ⟨fun i => match cs[i]? with | some (.int _ z) => BitVec.ofInt 8 z | _ => 0#8, fun i hi => ?_⟩
  obtain ⟨z, h1, h2⟩ := key i hi
  simp only [h1]
  rw [← n8_of_wf z h2]
theorem bits_nat_eq (n : Nat) (h : n ≤ maxLen) : n ≤ 9223372036854775807 := by unfold maxLen at h; omega
end Go.Proofs.YtddpfbeclmgndaaDoor
