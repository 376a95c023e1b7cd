/-
  sha: bytes of one's own beside a hash that changes; appends as runs.
-/
import Derived.Test.YtebhhonmpoeliaaDoorShaM
import Derived.Test.YtebhhonmpoeliaaDoorAny
namespace Go.Proofs.YtebhhonmpoeliaaDoor
open Go Go.RowKit Go.BigFrame
set_option linter.unusedSimpArgs false
set_option linter.unusedVariables false
theorem Chg.grown {x : Nat} {w w' : World} (hc : Chg x w w') : w.grownBy w' (some x) := ⟨hc.os, hc.tape, hc.output, hc.size, fun k hk hne => hc.block k hk (fun e => hne (by rw [e]))⟩
theorem Own.chg {B x n : Nat} {v : Value} {f : Nat → BitVec 8} {w w' : World} (h : Own B v n f w) (hc : Chg x w w') (hx : v.ownBlock ≠ some x) : Own B v n f w' := h.kept hc.grown (.inr (.inr hx))
theorem Own.off {B x n : Nat} {v : Value} {f : Nat → BitVec 8} {w : World} (h : Own B v n f w) (hx : x < B) : v.ownBlock ≠ some x := fun e => by have := (h.lt e).1; omega
/-- What an append onto v changes, if v has a block of its own: that block. -/
theorem GrownV.chg {w w' : World} {v v' : Value} {y : Nat} (h : GrownV w w' v v') (hv : v.ownBlock = none ∨ v.ownBlock = some y) : Chg y w w' :=
  ⟨h.grown.os, h.grown.tape, h.grown.output, h.grown.size, fun k hk hne => h.grown.block k hk (by
    rcases hv with e | e
    · rw [e]; simp
    · rw [e]; intro e2; injection e2 with e2; exact hne e2)⟩
/-- A slice of one's own as bytes that lie somewhere, from B on. -/
theorem Own.asMine {B n : Nat} {v : Value} {f : Nat → BitVec 8} {w : World} (h : Own B v n f w) : ∃ a c, v = .slice a n c ∧ n ≤ c ∧ c ≤ maxLen ∧ BytesIn w a n f ∧ (∀ y, a = some y → B ≤ y.block) ∧
    (0 < n → ∃ g cur, a = some ⟨g, 0, none⟩ ∧ w.heap[g]? = some (.cells cur 5 (0, 0)) ∧ n ≤ cur.size) := by
  rcases h.row.2 with ⟨rfl, hn⟩ | ⟨g, cap, cur, rfl, hB, hg, hnc, hcm, hcs, ht⟩
  · have hn0 : n = 0 := by omega
    subst hn0
    exact ⟨none, 0, rfl, Nat.le_refl _, Nat.zero_le _, ⟨Nat.zero_le _, .inl rfl⟩, fun y e => (by cases e), fun h => by omega⟩
  · refine ⟨some ⟨g, 0, none⟩, cap, rfl, hnc, hcm, ⟨Nat.le_trans hnc hcm, ?_⟩, fun y e => by injection e with e; subst e; exact hB, fun _ => ⟨g, cur, rfl, hg, by omega⟩⟩
    by_cases h0 : n = 0
    · exact .inl h0
    · obtain ⟨g', cap', e, h1, h2, h3⟩ := h.bytesIn (by omega)
      injection e with e1 e2 e3
      rcases h3.2 with h4 | h4
      · exact .inl h4
      · rw [← e1] at h4
        exact .inr h4
theorem exec_append {o : Oper} {a : Act} {w : World} (s x : Operand) (tx : TypeId) (ho : o.op = .call { callee := .builtin .append, args := #[s, x], argTypes := #[40, tx] })
    {B n m : Nat} {v xv : Value} {f g : Nat → BitVec 8} (hs : a.eval s = v) (hx : a.eval x = xv) (h : Own B v n f w) (hsrc : Src Tryd.prog 1 tx xv m (firsts g m) w) (hnm : n + m ≤ 200000000000000) :
    ∃ v' w', (execOp a.eval o).run Tryd.prog w = .ok (.value v') w' ∧ Own B v' (n + m) (joinb f n g) w' ∧ GrownV w w' v v' := by
  obtain ⟨v', w', hr, h2, h3⟩ := run_append_bytes o.type h hsrc hnm
  refine ⟨v', w', ?_, h2, h3⟩
  unfold execOp
  simp only [ho, resolve, invoke, builtin, Sem.run_bind, Sem.run_pure, Result.andThen_ok, List.map_toArray, List.map_cons, List.map_nil, hs, hx, hr]
/-- Behind an empty row of no room: a new row, or the same one. -/
theorem run_append_fresh {B m k : Nat} {x : Value} {f g : Nat → BitVec 8} {w : World} {tx : TypeId} (ty : TypeId) (h : Own B (.slice (some ⟨k, 0, none⟩) 0 0) 0 f w) (hs : Src Tryd.prog 1 tx x m (firsts g m) w) (hm : m ≤ 200000000000000) :
    ∃ v' w', (Builtin.append_ #[40, tx] ty #[.slice (some ⟨k, 0, none⟩) 0 0, x]).run Tryd.prog w = .ok v' w' ∧ Own B v' m g w' ∧ Below w.heap.size w w' := by
  obtain ⟨i, hi, hz, hsz, hby⟩ := info_u8'
  have hs' : Src Tryd.prog i.size tx x m (firsts g m) w := by rw [hsz]; exact hs
  by_cases h0 : m = 0
  · subst h0
    exact ⟨_, w, run_append_nothing (P := Tryd.prog) w 40 tx ty 5 i under_bytes hi _ 0 0 (Nat.le_refl _) x hs', h.congr (fun j hj => by omega), Below.refl _ _⟩
  · have hm63 : 0 + m ≤ maxLen := by unfold maxLen; omega
    have hold : (Builtin.firstCells i.size 0 (.slice (some ⟨k, 0, none⟩) 0 0)).run Tryd.prog w.drew = .ok ([] : List Value).toArray w.drew := run_firstCells_some w.drew i.size 0 _ 0 0 [] (by simp) (fun j v h => by simp at h)
    have hr := run_append_grow_src (P := Tryd.prog) w 40 tx ty 5 i _ under_bytes hi hz (some ⟨k, 0, none⟩) 0 0 [] hold x m (firsts g m) hs' (by omega) (by omega) (growslice_fits_wide (by omega) (by rw [hby]; omega))
    rw [Nat.zero_add] at hr
    refine ⟨_, _, hr, ⟨⟨by rw [firsts_len, Nat.mul_one], .inr ⟨w.heap.size, _, _, rfl, h.base, heap_alloc_new w.drew _, grownCap_ge _ _ _ _, grownCap_le_maxLen _ _ _ _ (by rw [Nat.zero_add] at hm63; exact hm63), ?_, ?_⟩⟩, by simp; exact Nat.le_succ_of_le h.base⟩, (Below.refl w.heap.size w).drew.alloc (by exact Nat.le_refl _) _⟩
    · have hge := grownCap_ge w m 0 5
      simp only [Array.size_append, List.size_toArray, size_zeroCells, List.length_append, firsts_len, Value.cells, List.nil_append]
      simp
      omega
    · simp only [Array.toList_append, Nat.mul_one, List.nil_append]
      have : (firsts g m).length = m := firsts_len _ _
      rw [List.take_left' this]
theorem exec_append_fresh {o : Oper} {a : Act} {w : World} (s x : Operand) (tx : TypeId) (ho : o.op = .call { callee := .builtin .append, args := #[s, x], argTypes := #[40, tx] })
    {B m k : Nat} {xv : Value} {f g : Nat → BitVec 8} (hs : a.eval s = .slice (some ⟨k, 0, none⟩) 0 0) (hx : a.eval x = xv) (h : Own B (.slice (some ⟨k, 0, none⟩) 0 0) 0 f w) (hsrc : Src Tryd.prog 1 tx xv m (firsts g m) w) (hnm : m ≤ 200000000000000) :
    ∃ v' w', (execOp a.eval o).run Tryd.prog w = .ok (.value v') w' ∧ Own B v' m g w' ∧ Below w.heap.size w w' := by
  obtain ⟨v', w', hr, h2, h3⟩ := run_append_fresh o.type h hsrc hnm
  refine ⟨v', w', ?_, h2, h3⟩
  unfold execOp
  simp only [ho, resolve, invoke, builtin, Sem.run_bind, Sem.run_pure, Result.andThen_ok, List.map_toArray, List.map_cons, List.map_nil, hs, hx, hr]
theorem exec_fresh_then {R : Value → World → Prop} {o : Oper} {a : Act} {w : World} (s x : Operand) (tx : TypeId) (ho : o.op = .call { callee := .builtin .append, args := #[s, x], argTypes := #[40, tx] })
    {B m k : Nat} {xv : Value} {f g : Nat → BitVec 8} (hs : a.eval s = .slice (some ⟨k, 0, none⟩) 0 0) (hx : a.eval x = xv) (h : Own B (.slice (some ⟨k, 0, none⟩) 0 0) 0 f w) (hsrc : Src Tryd.prog 1 tx xv m (firsts g m) w) (hnm : m ≤ 200000000000000)
    (hk : ∀ v' w', Own B v' m g w' → Below w.heap.size w w' → R v' w') : ∃ v w3, (execOp a.eval o).run Tryd.prog w = .ok (.value v) w3 ∧ Ext w w3 ∧ R v w3 := by
  obtain ⟨v', w', h1, h2, h3⟩ := exec_append_fresh s x tx ho hs hx h hsrc hnm
  exact ⟨v', w', h1, h3, hk v' w' h2 h3⟩
theorem ext_below {B : Nat} {w0 w w2 : World} (h : Ext w w2) (hb : Below B w0 w) (hB : B ≤ w.heap.size) : Below B w0 w2 := hb.trans (Below.mono (show Below w.heap.size w w2 from h) hB)
end Go.Proofs.YtebhhonmpoeliaaDoor
