/-
  BYTES THAT CAME IN: what the row's reading of a []byte says, in the walk's words.
-/
import Derived.Test.YtddpfbeclmgndaaDoorWords
import Derived.ProofKit
import Derived.OpenShut
import Derived.Below
namespace Go.Proofs.YtddpfbeclmgndaaDoor
open Go Go.RowKit Go.ChangeShapes Go.WideShapes
/-- A []byte of n elements, f i the i-th. -/
def BytesIn (w : World) (a : Option Addr) (n : Nat) (f : Nat → BitVec 8) : Prop :=
  n ≤ maxLen ∧ (n = 0 ∨ ∃ b off, a = some ⟨b, off, none⟩ ∧ b < w.heap.size ∧ ∀ i, i < n → w.cell? ⟨b, off + i, none⟩ = some (.int .u8 (n8 (f i))))
theorem n8_of_wf (n : Int) (h : (Lit.int .u8 n).wf = true) : n = n8 (BitVec.ofInt 8 n) := by
  have hx : 0 ≤ n ∧ n ≤ 255 := by simpa [Lit.wf, IntKind.min, IntKind.max, IntKind.signed, IntKind.bits] using h
  rw [← wrap_n8, IntKind.wrap_u8]
  omega
theorem row_in (w : World) (a : Option Addr) (len cap : Nat) (zs : List Int)
    (h : (a = none ∧ len = 0 ∧ cap = 0 ∧ zs = []) ∨ ∃ x, a = some x ∧ len ≤ cap ∧ cap ≤ maxLen ∧ zs.length = cap ∧ (∀ i, i < zs.length → w.cell? (x.add i) = some (.int .u8 (zs.getD i 0))) ∧ ∀ n ∈ zs, (Lit.int .u8 n).wf = true) :
    ∃ f : Nat → BitVec 8, BytesIn w a len f := by
  rcases h with ⟨rfl, rfl, rfl, rfl⟩ | ⟨x, rfl, hl, hm, hz, hc, hw⟩
  · exact ⟨fun _ => 0#8, Nat.zero_le _, .inl rfl⟩
  · refine ⟨fun i => BitVec.ofInt 8 (zs.getD i 0), Nat.le_trans hl hm, ?_⟩
    by_cases h0 : len = 0
    · exact .inl h0
    · obtain ⟨b, off, rfl, hcell⟩ := ints_at hc (by omega)
      refine .inr ⟨b, off, rfl, ?_, fun i hi => ?_⟩
      · have := hcell 0 (by omega)
        exact World.block_lt_of_cell? w _ this
      · rw [hcell i (by omega), ← n8_of_wf _ (hw _ ?_)]
        rw [List.getD_eq_getElem?_getD, List.getElem?_eq_getElem (by omega)]
        exact List.getElem_mem _
end Go.Proofs.YtddpfbeclmgndaaDoor
