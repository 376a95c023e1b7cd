/-
  A FLOW THAT CAME IN, by value: a key, a counter, a place, bytes.
-/
import Derived.Test.YtpgneoodgoolpaaAesJ
import Derived.Test.YtpgneoodgoolpaaOpen
namespace Go.Proofs.Ytpgneoodgoolpaa
open Go Go.RowKit Go.ChangeShapes Go.WideShapes
def flowCells (key ctr : Nat → BitVec 8) (at_ : Int) (sl : Value) : Array Value := b16 key ++ b16 ctr ++ #[.int .i64 at_, sl]
theorem flow_key (key ctr : Nat → BitVec 8) (at_ : Int) (sl : Value) (i : Nat) (h : i < 16) : (flowCells key ctr at_ sl)[i]? = some (.int .u8 (n8 (key i))) := by
  unfold flowCells
  rw [Array.getElem?_append_left (by simp [b16]; omega), Array.getElem?_append_left (by simp [b16]; omega)]
  exact b16_get key i h
theorem flow_ctr (key ctr : Nat → BitVec 8) (at_ : Int) (sl : Value) (i : Nat) (h : i < 16) : (flowCells key ctr at_ sl)[16 + i]? = some (.int .u8 (n8 (ctr i))) := by
  unfold flowCells
  rw [Array.getElem?_append_left (by simp [b16]; omega), Array.getElem?_append_right (by simp [b16])]
  have : 16 + i - (b16 key).size = i := by simp [b16]
  rw [this]
  exact b16_get ctr i h
theorem flow_at (key ctr : Nat → BitVec 8) (at_ : Int) (sl : Value) : (flowCells key ctr at_ sl)[32]? = some (.int .i64 at_) := by kernel_rfl
theorem flow_sl (key ctr : Nat → BitVec 8) (at_ : Int) (sl : Value) : (flowCells key ctr at_ sl)[33]? = some sl := by kernel_rfl
theorem trod_get {H : Type} {enc : TypeId × Value → H} {w : World} {base : Nat} {spare : Nat → Bool} {held : Bool} {fs : Array Field} {cs : List Value} {xs : List (DataW H × List MemPlace)} {n : Nat} {t m o : Nat} {i : Nat} {f : Field}
    (hx : ∀ (i : Nat) (f : Field), fs[i]? = some f → DataW.trod enc Try.prog w base spare held n f.type ((cs.drop f.offset).take (Try.prog.cellsOf f.type)) = xs[i]?) (hl : xs.length = fs.size)
    (hf : fs[i]? = some f) (ht : f.type = t) (ho : f.offset = o) (hm : Try.prog.cellsOf t = m) : ∃ y, DataW.trod enc Try.prog w base spare held n t ((cs.drop o).take m) = some y := by
  subst ht ho hm
  have hi : i < xs.length := by rw [hl]; exact (Array.getElem?_eq_some_iff.1 hf).1
  exact ⟨xs[i], by rw [hx i f hf, List.getElem?_eq_getElem hi]⟩
theorem open_flow {H : Type} {enc : TypeId × Value → H} {w : World} {base : Nat} {v : Value} {d : DataW H} {p : List MemPlace} (hk : Value.okWide Try.prog w .any base 36 v)
    (h : DataW.Trod enc Try.prog w 0 (fun _ => true) true 36 v d p) :
    ∃ key ctr at_ a len cap f, v = .agg (flowCells key ctr at_ (.slice a len cap)) ∧ -9223372036854775808 ≤ at_ ∧ at_ ≤ 9223372036854775807 ∧ BytesIn w a len f ∧ len ≤ cap ∧ cap ≤ maxLen := by
  obtain ⟨cs, rfl, hs⟩ := okWide_agg (by kernel_rfl) hk
  have hs34 : cs.size = 34 := hs.trans (by kernel_rfl)
  obtain ⟨fuel, hf⟩ := h
  obtain ⟨xs, n, _, _, _, hl, hx⟩ := DataW.trod_struct Try.underlying36 hf
  obtain ⟨y0, g0⟩ := trod_get (t := 22) (m := 16) (o := 0) (i := 0) hx hl rfl rfl rfl (by kernel_rfl)
  obtain ⟨y1, g1⟩ := trod_get (t := 22) (m := 16) (o := 16) (i := 1) hx hl rfl rfl rfl (by kernel_rfl)
  obtain ⟨y2, g2⟩ := trod_get (t := 3) (m := 1) (o := 32) (i := 2) hx hl rfl rfl rfl (by kernel_rfl)
  obtain ⟨y3, g3⟩ := trod_get (t := 27) (m := 1) (o := 33) (i := 3) hx hl rfl rfl rfl (by kernel_rfl)
  obtain ⟨key, hkey⟩ := trod_bytes (t := 22) (e := 5) (n := 16) (by kernel_rfl) (by kernel_rfl) (by kernel_rfl) g0
  obtain ⟨ctr, hctr⟩ := trod_bytes (t := 22) (e := 5) (n := 16) (by kernel_rfl) (by kernel_rfl) (by kernel_rfl) g1
  obtain ⟨at_, e2, _, hat⟩ := DataW.trod_int (show Try.prog.underlying 3 = some (.int .i64) from by kernel_rfl) g2
  have hb : -9223372036854775808 ≤ at_ ∧ at_ ≤ 9223372036854775807 := by simpa [Lit.wf, IntKind.min, IntKind.max, IntKind.signed, IntKind.bits] using hat
  have c2 : cs[32]? = some (.int .i64 at_) := by
    have := congrArg (·[0]?) e2
    simpa [Value.cells] using this
  have sl : ∃ a len cap zs, cs[33]? = some (.slice a len cap) ∧ len ≤ cap ∧ cap ≤ maxLen ∧ ((a = none ∧ len = 0 ∧ cap = 0 ∧ zs = []) ∨ ∃ x, a = some x ∧ len ≤ cap ∧ cap ≤ maxLen ∧ zs.length = cap ∧ (∀ i, i < zs.length → w.cell? (x.add i) = some (.int .u8 (zs.getD i 0))) ∧ ∀ n ∈ zs, (Lit.int .u8 n).wf = true) := by
    rcases open_ints Try.underlying27 Try.underlying5 (by kernel_rfl) g3 with ⟨hcs, _⟩ | ⟨x, l, c, zs, hcs, _, hl, hm, hz, _, hcell, hwz⟩
    · have := congrArg (·[0]?) hcs
      exact ⟨none, 0, 0, [], by simpa [Value.cells] using this, Nat.le_refl _, Nat.zero_le _, .inl ⟨rfl, rfl, rfl, rfl⟩⟩
    · have := congrArg (·[0]?) hcs
      exact ⟨_, l, c, zs, by simpa [Value.cells] using this, hl, hm, .inr ⟨_, rfl, hl, hm, by simpa using hz, hcell, hwz⟩⟩
  obtain ⟨a, len, cap, zs, c3, hlc, hcm, hrow⟩ := sl
  obtain ⟨f, hf⟩ := row_in w a len cap zs hrow
  refine ⟨key, ctr, at_, a, len, cap, f, ?_, hb.1, hb.2, hf, hlc, hcm⟩
  congr 1
  apply Array.ext_getElem?
  intro i
  by_cases h1 : i < 16
  · rw [flow_key _ _ _ _ i h1, ← hkey i h1]
    simp [Value.cells, h1]
  by_cases h2 : i < 32
  · obtain ⟨j, rfl⟩ : ∃ j, i = 16 + j := ⟨i - 16, by omega⟩
    rw [flow_ctr _ _ _ _ j (by omega), ← hctr j (by omega)]
    have : j < 16 := by omega
    simp [Value.cells, this]
  by_cases h3 : i = 32
  · subst h3; rw [c2, flow_at]
  by_cases h4 : i = 33
  · subst h4; rw [c3, flow_sl]
  · rw [Array.getElem?_eq_none (by omega), Array.getElem?_eq_none (by simp [flowCells, b16]; omega)]
end Go.Proofs.Ytpgneoodgoolpaa
