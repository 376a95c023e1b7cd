/-
  A []Use THAT CAME IN (a bool, a text, bytes), opened by what the row's reading says.
-/
import Derived.Test.YtbadcknchamimabDoorOpenB
import Derived.Deep.Slices
namespace Go.Proofs.YtbadcknchamimabDoor
open Go Go.RowKit Go.ChangeShapes Go.WideShapes
structure UsesIn (w : World) (a : Option Addr) (n : Nat) (M : Nat → Bool) (S : Nat → Nat → BitVec 8) (Z : Nat → Nat) (A : Nat → Option Addr) (L C : Nat → Nat) (F : Nat → Nat → BitVec 8) : Prop where
  le : n ≤ maxLen
  cells : n = 0 ∨ ∃ b off, a = some ⟨b, off, none⟩ ∧ b < w.heap.size ∧ ∀ i, i < n → w.cell? ⟨b, off + i * 3, none⟩ = some (.bool (M i)) ∧ w.cell? ⟨b, off + i * 3 + 1, none⟩ = some (.string (strOf (S i) (Z i))) ∧ w.cell? ⟨b, off + i * 3 + 2, none⟩ = some (.slice (A i) (L i) (C i))
  each : ∀ i, i < n → BytesIn w (A i) (L i) (F i) ∧ L i ≤ C i ∧ C i ≤ maxLen
theorem UsesIn.later {w w' : World} {a : Option Addr} {n : Nat} {M : Nat → Bool} {S : Nat → Nat → BitVec 8} {Z : Nat → Nat} {A : Nat → Option Addr} {L C : Nat → Nat} {F : Nat → Nat → BitVec 8} (h : UsesIn w a n M S Z A L C F) (hb : Below w.heap.size w w') : UsesIn w' a n M S Z A L C F := by
  refine ⟨h.le, ?_, fun i hi => ⟨?_, (h.each i hi).2⟩⟩
  · rcases h.cells with h0 | ⟨b, o, e, hbb, hc⟩
    · exact .inl h0
    · exact .inr ⟨b, o, e, Nat.lt_of_lt_of_le hbb hb.size, fun i hi => ⟨by rw [hb.cell (p := ⟨b, o + i * 3, none⟩) hbb]; exact (hc i hi).1, by rw [hb.cell (p := ⟨b, o + i * 3 + 1, none⟩) hbb]; exact (hc i hi).2.1, by rw [hb.cell (p := ⟨b, o + i * 3 + 2, none⟩) hbb]; exact (hc i hi).2.2⟩⟩
  · have h1 := (h.each i hi).1
    refine ⟨h1.1, ?_⟩
    rcases h1.2 with h0 | ⟨b, o, e, hbb, hc⟩
    · exact .inl h0
    · exact .inr ⟨b, o, e, Nat.lt_of_lt_of_le hbb hb.size, fun i hi => by rw [hb.cell (p := ⟨b, o + i, none⟩) hbb]; exact hc i hi⟩
set_option maxRecDepth 100000 in
theorem open_uses {H : Type} {enc : TypeId × Value → H} {w : World} {base : Nat} {v : Value} {d : DataW H} {p : List MemPlace} (hk : Value.okWide Tryd.prog w .any base 39 v)
    (h : DataW.Trod enc Tryd.prog w 0 (fun _ => true) true 39 v d p) : ∃ a n c M S Z A L C F, v = .slice a n c ∧ UsesIn w a n M S Z A L C F ∧ n ≤ c ∧ c ≤ maxLen := by
  obtain ⟨a0, len, cap, rfl⟩ := okWide_slice Tryd.underlying39 hk
  obtain ⟨fuel, hf⟩ := h
  have ce : Tryd.prog.cellsOf 46 = 3 := by kernel_rfl
  rcases Go.Deep.open_slice Tryd.underlying39 hf with ⟨hcs, _⟩ | ⟨x, l, c, m, q, D, Pl, hcs, _, hl, hm, hmm, _, hc⟩
  · have hcs : [Value.slice a0 len cap] = [Value.slice none 0 0] := hcs
    simp only [List.cons.injEq, Value.slice.injEq, and_true] at hcs
    obtain ⟨rfl, rfl, rfl⟩ := hcs
    exact ⟨_, _, _, fun _ => false, fun _ _ => 0#8, fun _ => 0, fun _ => none, fun _ => 0, fun _ => 0, fun _ _ => 0#8, rfl, ⟨Nat.zero_le _, .inl rfl, fun i hi => by omega⟩, Nat.le_refl _, Nat.zero_le _⟩
  · have hcs : [Value.slice a0 len cap] = [Value.slice (some x) l c] := hcs
    simp only [List.cons.injEq, Value.slice.injEq, and_true] at hcs
    obtain ⟨rfl, rfl, rfl⟩ := hcs
    rw [if_pos rfl] at hmm
    subst hmm
    have e : ∀ i, i < len → ∃ t : Bool × (Nat → BitVec 8) × Nat × Option Addr × Nat × Nat × (Nat → BitVec 8), w.cell? (x.add (i * 3)) = some (.bool t.1) ∧ w.cell? (x.add (i * 3 + 1)) = some (.string (strOf t.2.1 t.2.2.1)) ∧ w.cell? (x.add (i * 3 + 2)) = some (.slice t.2.2.2.1 t.2.2.2.2.1 t.2.2.2.2.2.1) ∧
        BytesIn w t.2.2.2.1 t.2.2.2.2.1 t.2.2.2.2.2.2 ∧ t.2.2.2.2.1 ≤ t.2.2.2.2.2.1 ∧ t.2.2.2.2.2.1 ≤ maxLen := fun i hi => by
      obtain ⟨cs', h1, h2⟩ := hc i (by omega)
      rw [ce] at h1
      obtain ⟨_, hlen, hcell⟩ := World.cells?_some h1
      obtain ⟨xs, k, hk2, hxy, _, hxl, hf2⟩ := DataW.trod_struct Tryd.underlying46 h2
      match xs, hxl, cs', hlen with
      | [y0, y1, y2], _, [v0, v1, v2], _ =>
        have g0 : DataW.trod enc Tryd.prog w 0 (fun _ => true) true k 4 [v0] = some y0 := hf2 0 _ rfl
        have g1 : DataW.trod enc Tryd.prog w 0 (fun _ => true) true k 9 [v1] = some y1 := hf2 1 _ rfl
        have g2 : DataW.trod enc Tryd.prog w 0 (fun _ => true) true k 22 [v2] = some y2 := hf2 2 _ rfl
        have e0 := hcell 0 (by omega)
        have e1 := hcell 1 (by omega)
        have e2 := hcell 2 (by omega)
        rw [Go.Deep.add_add] at e0 e1 e2
        obtain ⟨bb, hb0, _⟩ := DataW.trod_bool (show Tryd.prog.underlying 4 = some .bool from by kernel_rfl) g0
        obtain ⟨s, hs0, _, _⟩ := DataW.trod_string (show Tryd.prog.underlying 9 = some .string from by kernel_rfl) g1
        simp only [List.cons.injEq, and_true] at hb0 hs0
        subst hb0 hs0
        obtain ⟨g, hg⟩ := str_as s
        obtain ⟨a, l, c, f, rfl, h3, h4, h5, _⟩ := open_bytes_at g2
        exact ⟨(bb, g, s.size, a, l, c, f), by simpa using e0, by rw [← hg]; simpa using e1, by simpa using e2, h3, h4, h5⟩
    obtain ⟨G, hG⟩ := Go.Deep.choose_lt e
    refine ⟨_, _, _, fun i => (G i).1, fun i => (G i).2.1, fun i => (G i).2.2.1, fun i => (G i).2.2.2.1, fun i => (G i).2.2.2.2.1, fun i => (G i).2.2.2.2.2.1, fun i => (G i).2.2.2.2.2.2, rfl, ⟨Nat.le_trans hl hm, ?_, fun i hi => (hG i hi).2.2.2⟩, hl, hm⟩
    by_cases h0 : len = 0
    · exact .inl h0
    · obtain ⟨b, off, spot⟩ := x
      have hz := (hG 0 (by omega)).1
      have hspot : spot = none := by simpa [Addr.add] using World.cell?_spot hz
      subst hspot
      refine .inr ⟨b, off, rfl, ?_, fun i hi => ?_⟩
      · have := World.block_lt_of_cell? w _ hz
        simpa [Addr.add] using this
      · obtain ⟨h1, h2, h3, _⟩ := hG i hi
        rw [Go.WideShapes.add_plain] at h1 h2 h3
        rw [Nat.add_assoc, Nat.add_assoc]
        exact ⟨h1, h2, h3⟩
end Go.Proofs.YtbadcknchamimabDoor
