/-
  A []Bite THAT CAME IN; both readers, each call of both by one contract.
-/
import Derived.Test.YtgblfljbfaaipaaDoqE
import Derived.Deep.Slices
import Derived.Deep.MidRow
namespace Go.Proofs.Ytgblfljbfaaipaa
open Go Go.RowKit Go.ChangeShapes Go.WideShapes Go.BigFrame
set_option linter.unusedSimpArgs false
set_option linter.unusedVariables false
structure BitesIn (w : World) (a : Option Addr) (n : Nat) (M : Nat → Bool) (S : Nat → Nat → BitVec 8) (Z : Nat → Nat) (E : Nat → Bool) : Prop where
  le : n ≤ maxLen
  cells : n = 0 ∨ ∃ b off, a = some ⟨b, off, none⟩ ∧ b < w.heap.size ∧ ∀ i, i < n → w.cell? ⟨b, off + i * 3, none⟩ = some (.bool (M i)) ∧ w.cell? ⟨b, off + i * 3 + 1, none⟩ = some (.string (strOf (S i) (Z i))) ∧ w.cell? ⟨b, off + i * 3 + 2, none⟩ = some (.bool (E i))
set_option maxRecDepth 100000 in
theorem open_bites {H : Type} {enc : TypeId × Value → H} {w : World} {base : Nat} {v : Value} {d : DataW H} {p : List MemPlace} (hk : Value.okWide Try.prog w .any base 22 v)
    (h : DataW.Trod enc Try.prog w 0 (fun _ => true) true 22 v d p) : ∃ a n c M S Z E, v = .slice a n c ∧ BitesIn w a n M S Z E ∧ n ≤ c ∧ c ≤ maxLen := by
  obtain ⟨a0, len, cap, rfl⟩ := okWide_slice Try.underlying22 hk
  obtain ⟨fuel, hf⟩ := h
  have ce : Try.prog.cellsOf 42 = 3 := by kernel_rfl
  rcases Go.Deep.open_slice Try.underlying22 hf with ⟨hcs, _⟩ | ⟨x, l, c, m, q, D, Pl, hcs, _, hl, hm, hmm, _, hc⟩
  · have hcs : [Value.slice a0 len cap] = [Value.slice none 0 0] := hcs
    simp only [List.cons.injEq, Value.slice.injEq, and_true] at hcs
    obtain ⟨rfl, rfl, rfl⟩ := hcs
    exact ⟨_, _, _, fun _ => false, fun _ _ => 0#8, fun _ => 0, fun _ => false, rfl, ⟨Nat.zero_le _, .inl rfl⟩, Nat.le_refl _, Nat.zero_le _⟩
  · have hcs : [Value.slice a0 len cap] = [Value.slice (some x) l c] := hcs
    simp only [List.cons.injEq, Value.slice.injEq, and_true] at hcs
    obtain ⟨rfl, rfl, rfl⟩ := hcs
    rw [if_pos rfl] at hmm
    subst hmm
    have e : ∀ i, i < len → ∃ t : Bool × (Nat → BitVec 8) × Nat × Bool, w.cell? (x.add (i * 3)) = some (.bool t.1) ∧ w.cell? (x.add (i * 3 + 1)) = some (.string (strOf t.2.1 t.2.2.1)) ∧ w.cell? (x.add (i * 3 + 2)) = some (.bool t.2.2.2) := fun i hi => by
      obtain ⟨cs', h1, h2⟩ := hc i (by omega)
      rw [ce] at h1
      obtain ⟨_, hlen, hcell⟩ := World.cells?_some h1
      obtain ⟨xs, k, hk2, hxy, _, hxl, hf2⟩ := DataW.trod_struct Try.underlying42 h2
      match xs, hxl, cs', hlen with
      | [y0, y1, y2], _, [v0, v1, v2], _ =>
        have g0 : DataW.trod enc Try.prog w 0 (fun _ => true) true k 4 [v0] = some y0 := hf2 0 _ rfl
        have g1 : DataW.trod enc Try.prog w 0 (fun _ => true) true k 9 [v1] = some y1 := hf2 1 _ rfl
        have g2 : DataW.trod enc Try.prog w 0 (fun _ => true) true k 4 [v2] = some y2 := hf2 2 _ rfl
        have e0 := hcell 0 (by omega)
        have e1 := hcell 1 (by omega)
        have e2 := hcell 2 (by omega)
        rw [Go.Deep.add_add] at e0 e1 e2
        obtain ⟨bb, hb0, _⟩ := DataW.trod_bool (show Try.prog.underlying 4 = some .bool from by kernel_rfl) g0
        obtain ⟨s, hs0, _, _⟩ := DataW.trod_string (show Try.prog.underlying 9 = some .string from by kernel_rfl) g1
        obtain ⟨b2, hb2, _⟩ := DataW.trod_bool (show Try.prog.underlying 4 = some .bool from by kernel_rfl) g2
        simp only [List.cons.injEq, and_true] at hb0 hs0 hb2
        subst hb0 hs0 hb2
        obtain ⟨g, hg⟩ := str_as s
        exact ⟨(bb, g, s.size, b2), by simpa using e0, by rw [← hg]; simpa using e1, by simpa using e2⟩
    obtain ⟨G, hG⟩ := Go.Deep.choose_lt e
    refine ⟨_, _, _, fun i => (G i).1, fun i => (G i).2.1, fun i => (G i).2.2.1, fun i => (G i).2.2.2, rfl, ⟨Nat.le_trans hl hm, ?_⟩, hl, hm⟩
    by_cases h0 : len = 0
    · exact .inl h0
    · obtain ⟨b, off, spot⟩ := x
      have hz := (hG 0 (by omega)).1
      have hspot : spot = none := by simpa [Addr.add] using World.cell?_spot hz
      subst hspot
      refine .inr ⟨b, off, rfl, ?_, fun i hi => ?_⟩
      · have := World.block_lt_of_cell? w _ hz
        simpa [Addr.add] using this
      · obtain ⟨h1, h2, h3⟩ := hG i hi
        rw [Go.WideShapes.add_plain] at h1 h2 h3
        rw [Nat.add_assoc, Nat.add_assoc]
        exact ⟨h1, h2, h3⟩
/-- Both readers, of the same bytes. -/
structure Both (B r d : Nat) (v : Value) (over : Bool) (n : Nat) (f : Nat → BitVec 8) (w : World) : Prop where
  rd : Rdr B r v over n f w
  doc : Doc d over n f w
  ne : d ≠ r
  ap : v.ownBlock ≠ some d
  le : n ≤ 1048576
  dB : B ≤ d
def Pair (B r d : Nat) (w : World) : Prop := ∃ v over n f, Both B r d v over n f w
/-- The program's reader has gone on. -/
theorem doc_turn {B r d n : Nat} {v v' : Value} {over : Bool} {f : Nat → BitVec 8} {w w1 : World} (h : Both B r d v over n f w) (t : TurnR B r v v' w w1) : Doc d over n f w1 ∧ v'.ownBlock ≠ some d := by
  refine ⟨(t.block d h.doc.lt h.ne h.ap).trans h.doc, ?_⟩
  rcases t.blk with e | ⟨j, e, hj⟩
  · rw [e]; exact h.ap
  · rw [e]; intro e2; injection e2 with e2; have := h.doc.lt; omega
/-- Both have gone on. -/
theorem both_end {B r d n n' : Nat} {v v' : Value} {over o' : Bool} {f f' : Nat → BitVec 8} {w w1 w2 : World} (h : Both B r d v over n f w) (t : TurnR B r v v' w w1) (h1 : Rdr B r v' o' n' f' w1) (hle : n' ≤ 1048576)
    (S : RowSet w1 d DT (drC (strOf f' n') o') w2) : Pair B r d w2 ∧ Below B w w2 := by
  have hap := (doc_turn h t).2
  exact ⟨⟨v', o', n', f', h1.kept (by rw [S.size]; exact Nat.le_refl _) (S.other r (fun e => h.ne e.symm)) (fun g hg _ => S.other g (fun e => hap (by rw [hg, e]))), S.row, h.ne, hap, hle, h.dB⟩, t.below.trans (S.below B h.dB)⟩
theorem both_same {B r d n : Nat} {v v' : Value} {over : Bool} {f : Nat → BitVec 8} {w w1 w2 : World} (h : Both B r d v over n f w) (t : TurnR B r v v' w w1) (h1 : Rdr B r v' over n f w1) (k : Nat) (hw : w2 = w1.drewN k) : Pair B r d w2 ∧ Below B w w2 := by
  subst hw
  refine both_end h t h1 h.le ⟨(doc_turn h t).1, fun _ _ => rfl, rfl, fun b _ => below_drewN (Below.refl b w1) k⟩
theorem refl_row {d n : Nat} {over : Bool} {f : Nat → BitVec 8} {w : World} (h : Doc d over n f w) : RowSet w d DT (drC (strOf f n) over) w := rowSet_same h
theorem feed_both {B r d : Nat} {w : World} (h : Pair B r d w) (g : Nat → BitVec 8) (m : Nat) (hm : m ≤ 1000000000) :
    Calls Try.prog 8 #[.pointer (some ⟨r, 0, none⟩), .string (strOf g m)] w fun e w1 => ∃ x : Int, e = .returned (.int .i64 x) ∧
      Calls Try.prog 13 #[.pointer (some ⟨d, 0, none⟩), .string (strOf g m)] w1 fun e w2 => e = .returned (.int .i64 x) ∧ Pair B r d w2 ∧ Below B w w2 := by
  obtain ⟨v, over, n, f, h⟩ := h
  cases over with
  | true =>
    refine (feed_over B r n m v f g w h.rd).mono ?_
    rintro e w1 ⟨rfl, rfl⟩
    refine ⟨10, rfl, (dfeed_over d n m f g _ h.doc).mono ?_⟩
    rintro e w2 ⟨rfl, rfl⟩
    exact ⟨rfl, both_end h (TurnR.refl B r v _) h.rd h.le (refl_row h.doc)⟩
  | false =>
    by_cases hf : n + m ≤ 1048576
    · refine (feed_ok B r n m v f g w h.rd hf).mono ?_
      rintro e w1 ⟨rfl, v', h1, t⟩
      refine ⟨0, rfl, (dfeed_ok d n m f g _ (doc_turn h t).1 hf).mono ?_⟩
      rintro e w2 ⟨rfl, S⟩
      exact ⟨rfl, both_end h t h1 hf S⟩
    · refine (feed_full B r n m v f g w h.rd h.le (by omega) hm).mono ?_
      rintro e w1 ⟨rfl, rfl⟩
      refine ⟨6, rfl, (dfeed_full d n m f g _ h.doc h.le (by omega) hm).mono ?_⟩
      rintro e w2 ⟨rfl, rfl⟩
      exact ⟨rfl, both_end h (TurnR.refl B r v _) h.rd h.le (refl_row h.doc)⟩
theorem end_both {B r d : Nat} {w : World} (h : Pair B r d w) :
    Calls Try.prog 9 #[.pointer (some ⟨r, 0, none⟩)] w fun e w1 => ∃ x : Int, e = .returned (.int .i64 x) ∧
      Calls Try.prog 12 #[.pointer (some ⟨d, 0, none⟩)] w1 fun e w2 => e = .returned (.int .i64 x) ∧ Pair B r d w2 ∧ Below B w w2 := by
  obtain ⟨v, over, n, f, h⟩ := h
  refine (end_any B r n v over f w h.rd).mono ?_
  rintro e w1 ⟨rfl, h1, t⟩
  refine ⟨_, rfl, (dend_any d n over f _ (doc_turn h t).1).mono ?_⟩
  rintro e w2 ⟨rfl, S⟩
  exact ⟨rfl, both_end h t h1 h.le S⟩
theorem next_both {B r d : Nat} {w : World} (h : Pair B r d w) :
    Calls Try.prog 6 #[.pointer (some ⟨r, 0, none⟩)] w fun e w1 => ∃ (S : ByteArray) (o : Bool), e = .returned (.tuple #[.string S, .bool o]) ∧
      Calls Try.prog 14 #[.pointer (some ⟨d, 0, none⟩)] w1 fun e w2 => e = .returned (.tuple #[.string S, .bool o]) ∧ Pair B r d w2 ∧ Below B w w2 := by
  obtain ⟨v, over, n, f, h⟩ := h
  by_cases h2 : n < 2
  · refine (next_few B r n v over f w h.rd h2).mono ?_
    rintro e w1 ⟨rfl, rfl⟩
    refine ⟨_, _, rfl, (dnext_few d n over f _ h.doc h2).mono ?_⟩
    rintro e w2 ⟨rfl, rfl⟩
    exact ⟨rfl, both_end h (TurnR.refl B r v _) h.rd h.le (refl_row h.doc)⟩
  · by_cases hc : cnt f = 0 ∨ n < 2 + cnt f
    · refine (next_none B r n v over f w h.rd (by omega) h.le hc).mono ?_
      rintro e w1 ⟨rfl, h1, t⟩
      refine ⟨_, _, rfl, (dnext_none d n over f _ (doc_turn h t).1 (by omega) h.le hc).mono ?_⟩
      rintro e w2 ⟨rfl, k, hk⟩
      exact ⟨rfl, both_same h t h1 k hk⟩
    · refine (next_ok B r n v over f w h.rd h.le (by omega) (by omega)).mono ?_
      rintro e w1 ⟨rfl, v', h1, t⟩
      refine ⟨_, _, rfl, (dnext_ok d n over f _ (doc_turn h t).1 h.le (by omega) (by omega)).mono ?_⟩
      rintro e w2 ⟨rfl, S⟩
      exact ⟨rfl, both_end h t h1 (by have := h.le; omega) S⟩
end Go.Proofs.Ytgblfljbfaaipaa
