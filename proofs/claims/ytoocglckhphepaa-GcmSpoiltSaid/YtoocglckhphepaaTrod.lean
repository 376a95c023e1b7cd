/-
  A FIELD OF A STRUCT THAT CAME IN, by value.
-/
import Derived.Test.YtoocglckhphepaaAesN
import Derived.Test.YtoocglckhphepaaOpen
namespace Go.Proofs.Ytoocglckhphepaa
open Go Go.RowKit Go.ChangeShapes Go.WideShapes
theorem trod_get {H : Type} {enc : TypeId × Value → H} {w : World} {base : Nat} {spare : Nat → Bool} {held : Bool} {fs : Array Field} {cs : List Value} {xs : List (DataW H × List MemPlace)} {n : Nat} {t m o : Nat} {i : Nat} {f : Field}
    (hx : ∀ (i : Nat) (f : Field), fs[i]? = some f → DataW.trod enc Try.prog w base spare held n f.type ((cs.drop f.offset).take (Try.prog.cellsOf f.type)) = xs[i]?) (hl : xs.length = fs.size)
    (hf : fs[i]? = some f) (ht : f.type = t) (ho : f.offset = o) (hm : Try.prog.cellsOf t = m) : ∃ y, DataW.trod enc Try.prog w base spare held n t ((cs.drop o).take m) = some y := by
  subst ht ho hm
  have hi : i < xs.length := by rw [hl]; exact (Array.getElem?_eq_some_iff.1 hf).1
  exact ⟨xs[i], by rw [hx i f hf, List.getElem?_eq_getElem hi]⟩
end Go.Proofs.Ytoocglckhphepaa
