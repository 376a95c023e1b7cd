/-
  WHAT THE LAWS OF flow ARE GIVEN; new purses; what nil ones answer.
-/
import Derived.Test.YtjaneododongeabFlowC
import Derived.Test.YtjaneododongeabRowIn
import Derived.ShutString
import Derived.ProofKit
import Derived.OpenShut
import Derived.Deep.SlicePairs
namespace Go.Proofs.Ytjaneododongeab
open Go Go.RowKit Go.ChangeShapes Go.WideShapes Go.BigFrame
set_option linter.unusedVariables false
/-- A row of calls: what, and with which number. -/
def DealsIn (w : World) (a : Option Addr) (n : Nat) (f g : Nat → Int) : Prop :=
  n ≤ maxLen ∧ (∀ i, -9223372036854775808 ≤ g i ∧ g i ≤ 9223372036854775807) ∧ (n = 0 ∨ ∃ b off, a = some ⟨b, off, none⟩ ∧ b < w.heap.size ∧ ∀ i, i < n → w.cell? ⟨b, off + i * 2, none⟩ = some (.int .i64 (f i)) ∧ w.cell? ⟨b, off + i * 2 + 1, none⟩ = some (.int .i64 (g i)))
theorem wf_range {n : Int} (h : (Lit.int .i64 n).wf = true) : -9223372036854775808 ≤ n ∧ n ≤ 9223372036854775807 := by
  simpa [Lit.wf, IntKind.min, IntKind.max, IntKind.signed, IntKind.bits] using h
set_option maxRecDepth 100000 in
theorem open_deals {H : Type} {enc : TypeId × Value → H} {w : World} {base : Nat} {v : Value} {d : DataW H} {p : List MemPlace} (hk : Value.okWide Try.prog w .any base 22 v)
    (h : DataW.Trod enc Try.prog w 0 (fun _ => true) true 22 v d p) : ∃ a len cap f g, v = .slice a len cap ∧ DealsIn w a len f g ∧ len ≤ cap ∧ cap ≤ maxLen := by
  obtain ⟨a0, len, cap, rfl⟩ := okWide_slice Try.underlying22 hk
  obtain ⟨fuel, hf⟩ := h
  rcases Go.Deep.open_slice_pairs Try.underlying22 Try.underlying38 (by kernel_rfl) rfl rfl (by kernel_rfl) (by kernel_rfl) hf with ⟨hcs, _⟩ | ⟨x, l, c, m, q, V0, V1, D0, D1, P0, P1, hcs, _, hl, hm, hmm, _, hc⟩
  · have hcs : [Value.slice a0 len cap] = [Value.slice none 0 0] := hcs
    simp only [List.cons.injEq, Value.slice.injEq, and_true] at hcs
    obtain ⟨rfl, rfl, rfl⟩ := hcs
    exact ⟨_, _, _, fun _ => 0, fun _ => 0, rfl, ⟨Nat.zero_le _, fun _ => by show (-9223372036854775808 : Int) ≤ 0 ∧ (0 : Int) ≤ 9223372036854775807; omega, .inl rfl⟩, Nat.le_refl _, Nat.zero_le _⟩
  · have hcs : [Value.slice a0 len cap] = [Value.slice (some x) l c] := hcs
    simp only [List.cons.injEq, Value.slice.injEq, and_true] at hcs
    obtain ⟨rfl, rfl, rfl⟩ := hcs
    rw [if_pos rfl] at hmm
    subst hmm
    have e0 : ∀ i, i < len → ∃ z, V0 i = .int .i64 z := fun i hi => by
      obtain ⟨z, hz, _, _⟩ := DataW.trod_int (by kernel_rfl) (hc i (by omega)).2.2.1
      exact ⟨z, by simpa using hz⟩
    have e1 : ∀ i, i < len → ∃ z, V1 i = .int .i64 z ∧ (Lit.int .i64 z).wf = true := fun i hi => by
      obtain ⟨z, hz, _, hw⟩ := DataW.trod_int (by kernel_rfl) (hc i (by omega)).2.2.2
      exact ⟨z, by simpa using hz, hw⟩
    obtain ⟨f, hf0⟩ := Go.Deep.choose_lt e0
    obtain ⟨g, hg0⟩ := Go.Deep.choose_lt e1
    refine ⟨_, _, _, f, fun i => if i < len then g i else 0, rfl, ⟨Nat.le_trans hl hm, fun i => ?_, ?_⟩, hl, hm⟩
    · show -9223372036854775808 ≤ (if i < len then g i else 0) ∧ (if i < len then g i else 0) ≤ 9223372036854775807
      by_cases hi : i < len
      · rw [if_pos hi]; exact wf_range (hg0 i hi).2
      · rw [if_neg hi]; omega
    · by_cases h0 : len = 0
      · exact .inl h0
      · obtain ⟨b, off, spot⟩ := x
        have hz := (hc 0 (by omega)).1
        have hspot : spot = none := by simpa [Addr.add] using World.cell?_spot hz
        subst hspot
        refine .inr ⟨b, off, rfl, ?_, fun i hi => ?_⟩
        · have := World.block_lt_of_cell? w _ hz
          simpa [Addr.add] using this
        · have h1 := (hc i (by omega)).1
          have h2 := (hc i (by omega)).2.1
          rw [Go.WideShapes.add_plain] at h1 h2
          show w.cell? ⟨b, off + i * 2, none⟩ = some (.int .i64 (f i)) ∧ w.cell? ⟨b, off + i * 2 + 1, none⟩ = some (.int .i64 (if i < len then g i else 0))
          rw [if_pos hi, h1, Nat.add_assoc, h2, hf0 i hi, (hg0 i hi).1]
          exact ⟨rfl, rfl⟩
theorem empty_any (w : World) : Calls Try.prog 8 #[] w fun e w' => e = .returned (.pointer none) ∧ w = w' := by
  go_enter Try.func8, Try.ntmps8
  go_wp2_with fail
  go_ret
  exact ⟨rfl, rfl⟩
theorem newPurse_bad (W : Int) (h : W < 1 ∨ 65536 < W) (w : World) : Calls Try.prog 15 #[.int .i64 W] w fun e w' => e = .returned (.tuple #[.pointer none, .int .i64 1]) ∧ w = w' := by
  rcases h with h | h
  · go_enter Try.func15, Try.ntmps15
    go_wp2_with fail
    go_ret2
    exact ⟨rfl, rfl⟩
  · have h2 : ¬ W < 1 := by omega
    go_enter Try.func15, Try.ntmps15
    go_wp2_with fail
    go_ret2
    exact ⟨rfl, rfl⟩
theorem newPurse_ok (W : Int) (h : 1 ≤ W) (h' : W ≤ 65536) (w : World) : Calls Try.prog 15 #[.int .i64 W] w fun e w' => e = .returned (.tuple #[.pointer (some ⟨w.heap.size, 0, none⟩), .int .i64 0]) ∧ w' = w.alloc (.cells (purseC W W 0 0 0 0) PT) := by
  go_enter Try.func15, Try.ntmps15
  go_wp2_with fail
  go_ret2
  exact ⟨rfl, rfl⟩
end Go.Proofs.Ytjaneododongeab
