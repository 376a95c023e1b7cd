/-
  ROWS OF STEPS (a number, and 32 bytes), as they come in; 32 bytes in the middle of a block.
-/
import Derived.Test.YtjaneododongeaaFieldRefG
import Derived.Deep.Slices
import Derived.Deep.MidRow
import Derived.ShutString
import Derived.ProofKit
import Derived.OpenShut
namespace Go.Proofs.Ytjaneododongeaa
open Go Go.RowKit Go.ChangeShapes Go.WideShapes Go.BigFrame
set_option linter.unusedVariables false
def OpsIn (w : World) (a : Option Addr) (n : Nat) (f : Nat → Int) (F : Nat → Nat → BitVec 8) : Prop :=
  n = 0 ∨ ∃ b off, a = some ⟨b, off, none⟩ ∧ b < w.heap.size ∧ ∀ i, i < n → w.cell? ⟨b, off + i * 33, none⟩ = some (.int .i64 (f i)) ∧ ∀ k, k < 32 → w.cell? ⟨b, off + i * 33 + 1 + k, none⟩ = some (.int .u8 (n8 (F i k)))
theorem b32_range (g : Nat → BitVec 8) (b o : Nat) (w : World) (hc : ∀ i, i < 32 → w.cell? ⟨b, o + i, none⟩ = some (.int .u8 (n8 (g i)))) : w.rangeAt b o (b32 g).toList := by
  intro j v hv
  have hj : j < 32 := by
    have := (List.getElem?_eq_some_iff.1 hv).1
    rw [Array.length_toList, b32_size] at this
    exact this
  rw [hc j hj, ← hv, Array.getElem?_toList, b32_get g j hj]
theorem load32_mid (g : Nat → BitVec 8) (b o : Nat) (w : World) (hc : ∀ i, i < 32 → w.cell? ⟨b, o + i, none⟩ = some (.int .u8 (n8 (g i)))) :
    (Instr.loadAt 22 (.pointer (some ⟨b, o, none⟩))).run Try.prog w = .ok (.agg (b32 g)) w := by
  have h := run_loadAt_mid (P := Try.prog) w b o 22 (b32 g).toList (.array 32 5) (b32_range g b o w hc) (by kernel_rfl) rfl (by rw [Array.length_toList, b32_size]; kernel_rfl)
  rw [Array.toArray_toList] at h
  exact h
theorem arr32_mid (b o : Nat) (w : World) : (Instr.sliceAt 22 (.pointer (some ⟨b, o, none⟩)) none none none).run Try.prog w = .ok (.slice (some ⟨b, o, none⟩) 32 32) w := by
  first
  | kernel_rfl
  | (with_unfolding_all rfl)
  | simp [go_sem]
set_option maxRecDepth 100000 in
theorem open_ops {H : Type} {enc : TypeId × Value → H} {w : World} {base : Nat} {v : Value} {d : DataW H} {p : List MemPlace} (hk : Value.okWide Try.prog w .any base 38 v)
    (h : DataW.Trod enc Try.prog w 0 (fun _ => true) true 38 v d p) : ∃ a len cap f F, v = .slice a len cap ∧ OpsIn w a len f F ∧ len ≤ cap ∧ cap ≤ maxLen := by
  obtain ⟨a0, len, cap, rfl⟩ := okWide_slice Try.underlying38 hk
  obtain ⟨fuel, hf⟩ := h
  rcases Go.Deep.open_slice Try.underlying38 hf with ⟨hcs, _⟩ | ⟨x, l, c, m, q, D, Pl, hcs, _, hl, hm, hmm, _, hc⟩
  · have hcs : [Value.slice a0 len cap] = [Value.slice none 0 0] := hcs
    simp only [List.cons.injEq, Value.slice.injEq, and_true] at hcs
    obtain ⟨rfl, rfl, rfl⟩ := hcs
    exact ⟨_, _, _, fun _ => 0, fun _ _ => 0#8, rfl, .inl rfl, Nat.le_refl _, Nat.zero_le _⟩
  · have hcs : [Value.slice a0 len cap] = [Value.slice (some x) l c] := hcs
    simp only [List.cons.injEq, Value.slice.injEq, and_true] at hcs
    obtain ⟨rfl, rfl, rfl⟩ := hcs
    rw [if_pos rfl] at hmm
    subst hmm
    have hc1 : Try.prog.cellsOf 3 = 1 := by kernel_rfl
    have hc32 : Try.prog.cellsOf 22 = 32 := by kernel_rfl
    have hce : Try.prog.cellsOf 40 = 33 := by kernel_rfl
    have each : ∀ i, i < len → ∃ z : Int × (Nat → BitVec 8), w.cell? (x.add (i * 33)) = some (.int .i64 z.1) ∧ ∀ k, k < 32 → w.cell? (x.add (i * 33 + 1 + k)) = some (.int .u8 (n8 (z.2 k))) := fun i hi => by
      obtain ⟨cs', h1, h2⟩ := hc i (by omega)
      rw [hce] at h1
      obtain ⟨_, hlen, hcell⟩ := World.cells?_some h1
      obtain ⟨xs, k, _, _, _, hxl, hf⟩ := DataW.trod_struct Try.underlying40 h2
      have hxs : xs.length = 2 := hxl
      have g0 := hf 0 _ rfl
      have g1 := hf 1 _ rfl
      rw [List.getElem?_eq_getElem (by omega)] at g0 g1
      obtain ⟨z, hz, _, _⟩ := DataW.trod_int (k := .i64) (by kernel_rfl) g0
      obtain ⟨F, hF⟩ := trod_bytes (n := 32) (e := 5) (by kernel_rfl) (by kernel_rfl) (by kernel_rfl) g1
      refine ⟨(z, F), ?_, fun k hk => ?_⟩
      · have e0 := hcell 0 (by omega)
        rw [Go.Deep.add_add, Nat.add_zero] at e0
        rw [e0]
        have hz' : cs'[0]? = some (.int .i64 z) := by
          have := congrArg (fun l => l[0]?) hz
          simpa [hc1, List.getElem?_take] using this
        exact hz'
      · have e1 := hcell (1 + k) (by omega)
        rw [Go.Deep.add_add] at e1
        rw [show i * 33 + 1 + k = i * 33 + (1 + k) by omega, e1]
        have := hF k hk
        simpa [hc32, List.getElem?_take, hk, Nat.add_comm] using this
    obtain ⟨f, hf0⟩ := Go.Deep.choose_lt each
    refine ⟨_, _, _, fun i => (f i).1, fun i => (f i).2, rfl, ?_, hl, hm⟩
    by_cases h0 : len = 0
    · exact .inl h0
    · obtain ⟨b, off, spot⟩ := x
      have hz := (hf0 0 (by omega)).1
      have hspot : spot = none := by simpa [Addr.add] using World.cell?_spot hz
      subst hspot
      refine .inr ⟨b, off, rfl, ?_, fun i hi => ⟨?_, fun k hk => ?_⟩⟩
      · have := World.block_lt_of_cell? w _ hz
        simpa [Addr.add] using this
      · have h1 := (hf0 i hi).1
        rw [Go.WideShapes.add_plain] at h1
        exact h1
      · have h1 := (hf0 i hi).2 k hk
        rw [Go.WideShapes.add_plain] at h1
        rw [show off + i * 33 + 1 + k = off + (i * 33 + 1 + k) by omega]
        exact h1
end Go.Proofs.Ytjaneododongeaa
