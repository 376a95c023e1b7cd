/-
  THE DOORS AND THE DOCUMENT's, SIDE BY SIDE: each call of one, and then of the other.
-/
import Derived.Test.YtjaneododongeabFlowH
namespace Go.Proofs.Ytjaneododongeab
open Go Go.RowKit Go.BigFrame Go.Maps Go.WideElems Go.ChangeMaps Go.MapKept Go.WideShapes
set_option linter.unusedSimpArgs false
set_option linter.unusedVariables false
/-- A stream that there was. -/
def Was (srv : Bool) (O S x : Int) : Prop := 0 ≤ x ∧ (x % 4 = ownOf srv ∧ x / 4 < O ∨ x % 4 = otherOf srv ∧ x / 4 < S)
structure Both (w : World) (b m r base : Nat) (srv : Bool) (most : Int) (i : Nat) (O M S T C : Int) (n : Nat) (D : DataW Unit) (gv : Value) (G : List Int) : Prop where
  doors : DoorsAt w b m n ⟨ownOf srv, otherOf srv, O, M, most, S, T, C⟩ D
  row : w.heap[r]? = some (.cells (rdC gv ⟨srv, most, O, M, S, C, T⟩) RD (0, 0))
  gone : w.ownsRow base 3 1 gv G.length (intsL G)
  rb : r ≠ b
  rm : r ≠ m
  bb : base ≤ b
  bm : base ≤ m
  br : base ≤ r
  m0 : 1 ≤ most
  m1 : most ≤ 32
  o0 : 0 ≤ O
  o1 : O ≤ (i : Int)
  om : O ≤ M
  mf : M ≤ 1099511627776
  s0 : 0 ≤ S
  sc : S ≤ C
  t0 : 0 ≤ T
  t1 : T ≤ (i : Int)
  c1 : C ≤ T + most
  nn : (n : Int) = O + S
  g : G.length ≤ i
  i0 : i ≤ 1000
  has : ∀ x : Int, Maps.has D (.int .i64 x) = true ↔ Was srv O S x ∧ x ∉ G
  sub : ∀ x ∈ G, Was srv O S x
def Inv (w : World) (b m r base : Nat) (srv : Bool) (most : Int) (i : Nat) : Prop :=
  ∃ O M S T C n D gv G, Both w b m r base srv most i O M S T C n D gv G
section
variable {w w2 w3 : World} {b m r base i n : Nat} {srv : Bool} {most O M S T C : Int} {D : DataW Unit} {gv : Value} {G : List Int}
theorem Both.lt (h : Both w b m r base srv most i O M S T C n D gv G) : b < w.heap.size ∧ m < w.heap.size ∧ r < w.heap.size :=
  ⟨lt_row h.doors.row, by obtain ⟨es, c, hq, _⟩ := h.doors.map; exact lt_row hq, lt_row h.row⟩
theorem Turned.ofRow {b m : Nat} {w w' : World} {T : TypeId} {c : Array Value} (h : RowSet w b T c w') : Turned b m w w' :=
  ⟨fun B h1 _ => h.below B h1, fun k _ h1 _ => h.other k h1⟩
theorem gone_ne {A : Prop} {w : World} {k : Nat} {o : Obj} (ho : w.ownsRow base 3 1 gv G.length (intsL G)) (hk : w.heap[k]? = some o) (hne : ∀ cur, o ≠ .cells cur 3 (0, 0)) : gv.ownBlock ≠ some k := by
  intro e
  obtain ⟨_, ⟨rfl, h1⟩ | ⟨g, cp, cur, rfl, hg, hr, _⟩⟩ := ho
  · cases e
  · injection e with e
    subst e
    rw [hk] at hr
    injection hr with hr
    exact hne _ hr
theorem row_ne_int {cs cur : Array Value} {Y : TypeId} (h : Y ≠ 3) : Obj.cells cs Y (0, 0) ≠ .cells cur 3 (0, 0) := by
  intro e; injection e with _ e; exact h e
theorem map_ne_int {es : Array (Value × Value)} {c : Nat} {cur : Array Value} : True := trivial
theorem Both.free (h : Both w b m r base srv most i O M S T C n D gv G) : gv.ownBlock ≠ some b ∧ gv.ownBlock ≠ some m ∧ gv.ownBlock ≠ some r := by
  refine ⟨gone_ne (A := True) h.gone h.doors.row (fun cur => row_ne_int (by decide)), ?_, gone_ne (A := True) h.gone h.row (fun cur => row_ne_int (by decide))⟩
  obtain ⟨es, c, hq, _⟩ := h.doors.map
  exact gone_ne (A := True) h.gone hq (fun cur e => by cases e)
theorem own_of_block {w w' : World} {B : Nat} {e : TypeId} {z n : Nat} {v : Value} {xs : List Value} (h : w.ownsRow B e z v n xs) (hk : ∀ g, v.ownBlock = some g → g < w.heap.size → w'.heap[g]? = w.heap[g]?) : w'.ownsRow B e z v n xs := by
  obtain ⟨hl, ⟨rfl, h0⟩ | ⟨g, cap, cur, rfl, hg, hr, rest⟩⟩ := h
  · exact ⟨hl, .inl ⟨rfl, h0⟩⟩
  · exact ⟨hl, .inr ⟨g, cap, cur, rfl, hg, (hk g rfl (lt_row hr)).trans hr, rest⟩⟩
/-- What the program's call leaves of the document's. -/
theorem Both.past (h : Both w b m r base srv most i O M S T C n D gv G) (t : Turned b m w w2) :
    w2.heap[r]? = some (.cells (rdC gv ⟨srv, most, O, M, S, C, T⟩) RD (0, 0)) ∧ w2.ownsRow base 3 1 gv G.length (intsL G) := by
  obtain ⟨f1, f2, f3⟩ := h.free
  obtain ⟨l1, l2, l3⟩ := h.lt
  exact ⟨(t.other r l3 h.rb h.rm).trans h.row, own_of_block h.gone (fun g hg hl => t.other g hl (by rintro rfl; exact f1 hg) (by rintro rfl; exact f2 hg))⟩
theorem doors_past {d : Nums} (h : DoorsAt w b m n d D) (hb : w2.heap[b]? = w.heap[b]?) (hm : w2.heap[m]? = w.heap[m]?) : DoorsAt w2 b m n d D :=
  ⟨hb.trans h.row, owns_heap h.map hm, h.ne⟩
end
theorem was_own {srv : Bool} {O S x : Int} (h0 : 0 ≤ O) : Was srv (O + 1) S x ↔ x = 4 * O + ownOf srv ∨ Was srv O S x := by
  cases srv <;> simp only [Was, ownOf, otherOf] <;> constructor <;> intro h <;> simp at * <;> omega
theorem was_other {srv : Bool} {O S x : Int} (h0 : 0 ≤ S) : Was srv O (S + 1) x ↔ x = 4 * S + otherOf srv ∨ Was srv O S x := by
  cases srv <;> simp only [Was, ownOf, otherOf] <;> constructor <;> intro h <;> simp at * <;> omega
theorem puts_map {D : DataW Unit} {w : World} {b m n : Nat} {d : Nums} (h : DoorsAt w b m n d D) : IsMap D := h.map.isMap
theorem putsD_isMap (D : DataW Unit) (hD : IsMap D) (o s : Int) : ∀ k, IsMap (putsD D o s k)
  | 0 => hD
  | k + 1 => IsMap.put (putsD_isMap D hD o s k) _ _
theorem has_puts (D : DataW Unit) (hD : IsMap D) (srv : Bool) (O S : Int) (hS : 0 ≤ S) (hS1 : S ≤ 1000) (P : Int → Prop) (hp : ∀ x, Maps.has D (.int .i64 x) = true ↔ P x) : ∀ (k : Nat) (hk : k ≤ 1000) (x : Int), Maps.has (putsD D (otherOf srv) S k) (.int .i64 x) = true ↔ P x ∨ (Was srv O (S + (k : Int)) x ∧ ¬ Was srv O S x)
  | 0, _, x => by
    have e : S + ((0 : Nat) : Int) = S := by simp
    rw [e]
    show Maps.has D _ = true ↔ _
    rw [hp]
    constructor
    · exact .inl
    · rintro (h | ⟨h1, h2⟩)
      · exact h
      · exact (h2 h1).elim
  | k + 1, hk, x => by
    have e : S + ((k + 1 : Nat) : Int) = (S + (k : Int)) + 1 := by omega
    have hl := own_le srv
    show Maps.has ((putsD D (otherOf srv) S k).put _ _) _ = true ↔ _
    rw [has_put _ (putsD_isMap D hD _ _ k) _ _ (by omega), has_puts D hD srv O S hS hS1 P hp k (by omega) x, e, was_other (by omega)]
    have hq : x = 4 * (S + (k : Int)) + otherOf srv → ¬ Was srv O S x := by
      rintro rfl
      cases srv <;> simp only [Was, ownOf, otherOf] <;> simp <;> omega
    constructor
    · rintro (h | h | ⟨h1, h2⟩)
      · exact .inr ⟨.inl h, hq h⟩
      · exact .inl h
      · exact .inr ⟨.inr h1, h2⟩
    · rintro (h | ⟨h1 | h1, h2⟩)
      · exact .inr (.inl h)
      · exact .inl h1
      · exact .inr (.inr ⟨h1, h2⟩)
end Go.Proofs.Ytjaneododongeab
