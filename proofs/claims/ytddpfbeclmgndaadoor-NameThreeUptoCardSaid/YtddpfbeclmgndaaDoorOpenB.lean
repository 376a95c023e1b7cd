/-
  BYTES AND TEXTS THAT CAME IN, opened by what the row's reading says.
-/
import Derived.Test.YtddpfbeclmgndaaDoorRowIn
import Derived.Test.YtddpfbeclmgndaaDoorStr
import Derived.ShutString
import Derived.ProofKit
import Derived.OpenShut
namespace Go.Proofs.YtddpfbeclmgndaaDoor
open Go Go.RowKit Go.ChangeShapes Go.WideShapes
set_option maxRecDepth 100000 in
theorem open_bytes {H : Type} {enc : TypeId × Value → H} {w : World} {base : Nat} {v : Value} {d : DataW H} {p : List MemPlace} (hk : Value.okWide Tryd.prog w .any base 29 v)
    (h : DataW.Trod enc Tryd.prog w 0 (fun _ => true) true 29 v d p) : ∃ a len cap f, v = .slice a len cap ∧ BytesIn w a len f ∧ len ≤ cap ∧ cap ≤ maxLen := by
  obtain ⟨a0, len, cap, rfl⟩ := okWide_slice Tryd.underlying29 hk
  obtain ⟨fuel, hf⟩ := h
  rcases open_ints Tryd.underlying29 Tryd.underlying5 (by kernel_rfl) hf with ⟨hcs, _⟩ | ⟨x, l, c, zs, hcs, _, hl, hm, hz, _, hcell, hwz⟩
  · have hcs : [Value.slice a0 len cap] = [Value.slice none 0 0] := hcs
    simp only [List.cons.injEq, Value.slice.injEq, and_true] at hcs
    obtain ⟨rfl, rfl, rfl⟩ := hcs
    obtain ⟨f, hf⟩ := row_in w none 0 0 [] (.inl ⟨rfl, rfl, rfl, rfl⟩)
    exact ⟨_, _, _, f, rfl, hf, Nat.le_refl _, Nat.zero_le _⟩
  · have hcs : [Value.slice a0 len cap] = [Value.slice (some x) l c] := hcs
    simp only [List.cons.injEq, Value.slice.injEq, and_true] at hcs
    obtain ⟨rfl, rfl, rfl⟩ := hcs
    obtain ⟨f, hf⟩ := row_in w (some x) len cap zs (.inr ⟨x, rfl, hl, hm, by simpa using hz, hcell, hwz⟩)
    exact ⟨_, _, _, f, rfl, hf, hl, hm⟩
theorem bytesOf_u8 : Tryd.prog.bytesOf 5 = 1 := by kernel_rfl
set_option maxRecDepth 100000 in
theorem open_bytes_at {H : Type} {enc : TypeId × Value → H} {w : World} {fuel : Nat} {c : Value} {y : DataW H × List MemPlace} (h : DataW.trod enc Tryd.prog w 0 (fun _ => true) true fuel 29 [c] = some y) :
    ∃ a len cap f, c = .slice a len cap ∧ BytesIn w a len f ∧ len ≤ cap ∧ cap ≤ maxLen ∧ ∀ R : Nat, (∀ n ∈ DataW.weights Tryd.prog 29 y.1, n ≤ R) → len ≤ R := by
  rcases open_ints Tryd.underlying29 Tryd.underlying5 (by kernel_rfl) h with ⟨hcs, hy⟩ | ⟨x, l, cp, zs, hcs, _, hl, hm, hz, hy, hcell, hwz⟩
  · obtain rfl : c = .slice none 0 0 := by simpa using hcs
    obtain ⟨f, hf⟩ := row_in w none 0 0 [] (.inl ⟨rfl, rfl, rfl, rfl⟩)
    exact ⟨_, _, _, f, rfl, hf, Nat.le_refl _, Nat.zero_le _, fun _ _ => Nat.zero_le _⟩
  · obtain rfl : c = .slice (some x) l cp := by simpa using hcs
    have hz' : zs.length = cp := by simpa using hz
    obtain ⟨f, hf⟩ := row_in w (some x) l cp zs (.inr ⟨x, rfl, hl, hm, hz', hcell, hwz⟩)
    refine ⟨_, _, _, f, rfl, hf, hl, hm, fun R hR => ?_⟩
    subst hy
    have h1 := hR (((lits .u8 (zs.take l)).length + (lits .u8 (zs.drop l)).length) * Tryd.prog.bytesOf 5) (by
      rw [DataW.weights, Tryd.underlying29]
      exact List.mem_cons_self)
    rw [bytesOf_u8] at h1
    simp only [lits, List.length_map, List.length_take, List.length_drop] at h1
    omega
/-- Each text is one of bytes. -/
theorem str_as (s : ByteArray) : ∃ f, s = strOf f s.size := by
  refine ⟨fun i => (s.data.toList.getD i 0).toBitVec, ?_⟩
  apply ByteArray.ext
  apply Array.ext'
  show s.data.toList = (strL _ s.size).toArray.toList
  have hl : s.data.toList.length = s.size := by simp
  apply List.ext_getElem?
  intro i
  by_cases h : i < s.size
  · simp [strL, h]
  · rw [List.getElem?_eq_none (by omega), List.getElem?_eq_none (by simp [strL]; omega)]
set_option maxRecDepth 100000 in
theorem open_text {H : Type} {enc : TypeId × Value → H} {w : World} {base : Nat} {v : Value} {d : DataW H} {p : List MemPlace} (hk : Value.okWide Tryd.prog w .any base 9 v)
    (h : DataW.Trod enc Tryd.prog w 0 (fun _ => true) true 9 v d p) : ∃ f n, v = .string (strOf f n) ∧ n ≤ maxLen := by
  obtain ⟨s, rfl, _, _, hs⟩ := ChangeMaps.open_string Tryd.underlying9 hk h
  obtain ⟨f, hf⟩ := str_as s
  exact ⟨f, s.size, by rw [← hf], hs⟩
end Go.Proofs.YtddpfbeclmgndaaDoor
