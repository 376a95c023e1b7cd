/-
  Frame and the document's, of the same bytes; a new pair of readers.
-/
import Derived.Test.YtgblfljbfaaipaaDoqF
namespace Go.Proofs.Ytgblfljbfaaipaa
open Go Go.RowKit Go.ChangeShapes Go.WideShapes Go.BigFrame
set_option linter.unusedSimpArgs false
set_option linter.unusedVariables false
theorem frame_both (a : Option Addr) (m c : Nat) (f : Nat → BitVec 8) (w : World) (h : BytesIn w a m f) :
    Calls Try.prog 10 #[.string (strOf f m)] w fun e w1 => ∃ (T : ByteArray) (x : Int), e = .returned (.tuple #[.string T, .int .i64 x]) ∧ Below w.heap.size w w1 ∧
      Calls Try.prog 11 #[.slice a m c] w1 fun e w2 => ∃ a' n' c', e = .returned (.tuple #[.slice a' n' c', .int .i64 x]) ∧ Below w1.heap.size w1 w2 ∧ (convert 23 9 (.slice a' n' c')).run Try.prog w2 = .ok (.string T) w2 := by
  by_cases h0 : m = 0
  · subst h0
    refine (docFrame_none w).mono ?_
    rintro e w1 ⟨rfl, rfl⟩
    refine ⟨_, _, rfl, Below.refl _ _, (frame_none a c _).mono ?_⟩
    rintro e w2 ⟨rfl, rfl⟩
    exact ⟨none, 0, 0, rfl, Below.refl _ _, conv_in f none 0 0 _ ⟨Nat.zero_le _, .inl rfl⟩⟩
  · by_cases hb : 65535 < m
    · refine (docFrame_big f m hb w).mono ?_
      rintro e w1 ⟨rfl, rfl⟩
      refine ⟨_, _, rfl, Below.refl _ _, (frame_big a m c hb _).mono ?_⟩
      rintro e w2 ⟨rfl, rfl⟩
      exact ⟨none, 0, 0, rfl, Below.refl _ _, conv_in f none 0 0 _ ⟨Nat.zero_le _, .inl rfl⟩⟩
    · refine (docFrame_ok f m (by omega) (by omega) w).mono ?_
      rintro e w1 ⟨rfl, hb1⟩
      refine ⟨_, _, rfl, hb1, (frame_ok a m c f (by omega) (by omega) _ (bytesIn_later h hb1)).mono ?_⟩
      rintro e w2 ⟨v, rfl, ho, hb2⟩
      obtain ⟨a', c', rfl, hin, _, _⟩ := ho.bytesIn
      exact ⟨a', _, c', rfl, hb2, conv_in _ _ _ _ _ hin⟩
theorem str_front (f : Nat → BitVec 8) (n k : Nat) (K : Int) (hK : K.toNat = k) (hk : k ≤ n) : (strOf f n).extract 0 K.toNat = strOf f k := by
  rw [hK, str_cut f 0 k n (Nat.zero_le _) hk]
  congr 1
  funext i
  rw [Nat.zero_add]
theorem Pair.later {B r d : Nat} {w w' : World} (h : Pair B r d w) (hb : Below w.heap.size w w') : Pair B r d w' := by
  obtain ⟨v, over, n, f, h⟩ := h
  exact ⟨v, over, n, f, h.rd.later hb, (hb.block d h.doc.lt).trans h.doc, h.ne, h.ap, h.le, h.dB⟩
theorem pair_new (B : Nat) (w : World) (hB : B ≤ w.heap.size) : Pair B w.heap.size (w.heap.size + 1) ((w.alloc (.cells (rdC (.slice none 0 0) false) RT)).alloc (.cells (drC ⟨#[]⟩ false) DT)) := by
  refine ⟨.slice none 0 0, false, 0, fun _ => 0#8, (Rdr.made B (fun _ => 0#8) w hB).later ((Below.refl _ _).alloc (Nat.le_refl _) _), rows_alloc w [_, _] 1, by omega, (fun h => by cases h), by omega, by omega⟩
end Go.Proofs.Ytgblfljbfaaipaa
