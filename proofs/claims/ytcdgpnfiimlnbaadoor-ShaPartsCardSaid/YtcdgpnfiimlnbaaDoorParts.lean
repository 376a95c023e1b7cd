/-
  A [][]byte THAT CAME IN, opened by what the row's reading says.
-/
import Derived.Test.YtcdgpnfiimlnbaaDoorOpenB
import Derived.Deep.Slices
namespace Go.Proofs.YtcdgpnfiimlnbaaDoor
open Go Go.RowKit Go.ChangeShapes Go.WideShapes
structure PartsIn (w : World) (a : Option Addr) (n : Nat) (A : Nat → Option Addr) (L C : Nat → Nat) (F : Nat → Nat → BitVec 8) : Prop where
  le : n ≤ maxLen
  cells : n = 0 ∨ ∃ b off, a = some ⟨b, off, none⟩ ∧ b < w.heap.size ∧ ∀ i, i < n → w.cell? ⟨b, off + i, none⟩ = some (.slice (A i) (L i) (C i))
  each : ∀ i, i < n → BytesIn w (A i) (L i) (F i) ∧ L i ≤ C i ∧ C i ≤ maxLen
set_option maxRecDepth 100000 in
theorem open_parts {H : Type} {enc : TypeId × Value → H} {w : World} {base : Nat} {v : Value} {d : DataW H} {p : List MemPlace} (hk : Value.okWide Tryd.prog w .any base 31 v)
    (h : DataW.Trod enc Tryd.prog w 0 (fun _ => true) true 31 v d p) : ∃ a n c A L C F, v = .slice a n c ∧ PartsIn w a n A L C F ∧ n ≤ c ∧ c ≤ maxLen := by
  obtain ⟨a0, len, cap, rfl⟩ := okWide_slice Tryd.underlying31 hk
  obtain ⟨fuel, hf⟩ := h
  rcases Go.Deep.open_slice1 Tryd.underlying31 (by kernel_rfl) hf with ⟨hcs, _⟩ | ⟨x, l, c, m, q, V, D, Pl, hcs, _, hl, hm, hmm, _, hc⟩
  · have hcs : [Value.slice a0 len cap] = [Value.slice none 0 0] := hcs
    simp only [List.cons.injEq, Value.slice.injEq, and_true] at hcs
    obtain ⟨rfl, rfl, rfl⟩ := hcs
    exact ⟨_, _, _, fun _ => none, fun _ => 0, fun _ => 0, fun _ _ => 0#8, rfl, ⟨Nat.zero_le _, .inl rfl, fun i hi => by omega⟩, Nat.le_refl _, Nat.zero_le _⟩
  · have hcs : [Value.slice a0 len cap] = [Value.slice (some x) l c] := hcs
    simp only [List.cons.injEq, Value.slice.injEq, and_true] at hcs
    obtain ⟨rfl, rfl, rfl⟩ := hcs
    rw [if_pos rfl] at hmm
    subst hmm
    have e : ∀ i, i < len → ∃ t : Option Addr × Nat × Nat × (Nat → BitVec 8), V i = .slice t.1 t.2.1 t.2.2.1 ∧ BytesIn w t.1 t.2.1 t.2.2.2 ∧ t.2.1 ≤ t.2.2.1 ∧ t.2.2.1 ≤ maxLen := fun i hi => by
      obtain ⟨a, l, c, f, h1, h2, h3, h4, _⟩ := open_bytes_at (hc i (by omega)).2
      exact ⟨(a, l, c, f), h1, h2, h3, h4⟩
    obtain ⟨G, hG⟩ := Go.Deep.choose_lt e
    refine ⟨_, _, _, fun i => (G i).1, fun i => (G i).2.1, fun i => (G i).2.2.1, fun i => (G i).2.2.2, rfl, ⟨Nat.le_trans hl hm, ?_, fun i hi => (hG i hi).2⟩, hl, hm⟩
    by_cases h0 : len = 0
    · exact .inl h0
    · obtain ⟨b, off, spot⟩ := x
      have hz := (hc 0 (by omega)).1
      have hspot : spot = none := by simpa [Addr.add] using World.cell?_spot hz
      subst hspot
      refine .inr ⟨b, off, rfl, ?_, fun i hi => ?_⟩
      · have := World.block_lt_of_cell? w _ hz
        simpa [Addr.add] using this
      · have h1 := (hc i (by omega)).1
        rw [Go.WideShapes.add_plain] at h1
        rw [h1, (hG i hi).1]
theorem PartsIn.later {w w' : World} {a : Option Addr} {n : Nat} {A : Nat → Option Addr} {L C : Nat → Nat} {F : Nat → Nat → BitVec 8} (h : PartsIn w a n A L C F) (hb : Below w.heap.size w w') : PartsIn w' a n A L C F := by
  refine ⟨h.le, ?_, fun i hi => ⟨?_, (h.each i hi).2⟩⟩
  · rcases h.cells with h0 | ⟨b, o, e, hbb, hc⟩
    · exact .inl h0
    · exact .inr ⟨b, o, e, Nat.lt_of_lt_of_le hbb hb.size, fun i hi => by rw [hb.cell (p := ⟨b, o + i, none⟩) hbb]; exact hc i hi⟩
  · have h1 := (h.each i hi).1
    refine ⟨h1.1, ?_⟩
    rcases h1.2 with h0 | ⟨b, o, e, hbb, hc⟩
    · exact .inl h0
    · exact .inr ⟨b, o, e, Nat.lt_of_lt_of_le hbb hb.size, fun i hi => by rw [hb.cell (p := ⟨b, o + i, none⟩) hbb]; exact hc i hi⟩
end Go.Proofs.YtcdgpnfiimlnbaaDoor
