/-
  BYTES OF ONE'S OWN THAT MAY BEGIN WITHIN THEIR BLOCK: appended to, cut at their front.
-/
import Derived.Test.YtjbpjoondmcnlabDoorMg04
import Derived.Test.YtjbpjoondmcnlabDoorMg01
import Derived.Test.YtjbpjoondmcnlabDoorMg03
import Derived.Test.YtjbpjoondmcnlabDoorMg07
import Derived.Deep.AppendSrc
import Derived.Deep.Upon
import Derived.Deep.DeepAppendWide
import Derived.Below
import Derived.WalkKit
import Derived.WideLaws
namespace Go.Proofs.YtjbpjoondmcnlabDoor
open Go Go.RowKit
set_option linter.unusedSimpArgs false
set_option maxRecDepth 100000
set_option linter.unusedVariables false
/-- v is a slice of the first n bytes of f, in a block of one's own from block B on. -/
structure OwnAt (B : Nat) (v : Value) (n : Nat) (f : Nat → BitVec 8) (w : World) : Prop where
  row : (v = .slice none 0 0 ∧ n = 0) ∨ ∃ g o cap, ∃ cur : Array Value, v = .slice (some ⟨g, o, none⟩) n cap ∧ B ≤ g ∧ w.heap[g]? = some (.cells cur 5 (0, 0)) ∧ n ≤ cap ∧ cap ≤ maxLen ∧ o + cap ≤ cur.size ∧ ∀ i, i < n → cur[o + i]? = some (.int .u8 (n8 (f i)))
  base : B ≤ w.heap.size
theorem OwnAt.nil (B : Nat) (f : Nat → BitVec 8) (w : World) (hB : B ≤ w.heap.size) : OwnAt B (.slice none 0 0) 0 f w := ⟨.inl ⟨rfl, rfl⟩, hB⟩
theorem OwnAt.congr {B n : Nat} {v : Value} {f g : Nat → BitVec 8} {w : World} (h : OwnAt B v n f w) (hfg : ∀ i, i < n → f i = g i) : OwnAt B v n g w := by
  refine ⟨?_, h.base⟩
  rcases h.row with h1 | ⟨b, o, cap, cur, rfl, hB, hg, h1, h2, h3, h4⟩
  · exact .inl h1
  · exact .inr ⟨b, o, cap, cur, rfl, hB, hg, h1, h2, h3, fun i hi => by rw [h4 i hi, hfg i hi]⟩
theorem OwnAt.lt {B n k : Nat} {v : Value} {f : Nat → BitVec 8} {w : World} (h : OwnAt B v n f w) (hk : v.ownBlock = some k) : B ≤ k ∧ k < w.heap.size := by
  rcases h.row with ⟨rfl, _⟩ | ⟨g, o, cap, cur, rfl, hB, hg, _⟩
  · cases hk
  · injection hk with hk; subst hk; exact ⟨hB, lt_row hg⟩
/-- Other blocks may change. -/
theorem OwnAt.kept {B n : Nat} {v : Value} {f : Nat → BitVec 8} {w w' : World} (h : OwnAt B v n f w) (hs : w.heap.size ≤ w'.heap.size) (hk : ∀ g, v.ownBlock = some g → g < w.heap.size → w'.heap[g]? = w.heap[g]?) : OwnAt B v n f w' := by
  refine ⟨?_, Nat.le_trans h.base hs⟩
  rcases h.row with h1 | ⟨g, o, cap, cur, rfl, hB, hg, r⟩
  · exact .inl h1
  · exact .inr ⟨g, o, cap, cur, rfl, hB, (hk g rfl (lt_row hg)).trans hg, r⟩
theorem OwnAt.later {B n : Nat} {v : Value} {f : Nat → BitVec 8} {w w' : World} (h : OwnAt B v n f w) (hb : Below w.heap.size w w') : OwnAt B v n f w' :=
  h.kept hb.size (fun g _ hg => hb.block g hg)
theorem OwnAt.slice {B n : Nat} {v : Value} {f : Nat → BitVec 8} {w : World} (h : OwnAt B v n f w) : ∃ a cap, v = .slice a n cap := by
  rcases h.row with ⟨rfl, rfl⟩ | ⟨g, o, cap, cur, rfl, _⟩
  · exact ⟨_, _, rfl⟩
  · exact ⟨_, _, rfl⟩
theorem OwnAt.at {B n i : Nat} {v : Value} {f : Nat → BitVec 8} {w : World} (h : OwnAt B v n f w) (hi : i < n) : ∃ g o cap, v = .slice (some ⟨g, o, none⟩) n cap ∧ n ≤ cap ∧ cap ≤ maxLen ∧ ∀ i, i < n → w.cell? ⟨g, o + i, none⟩ = some (.int .u8 (n8 (f i))) := by
  rcases h.row with ⟨rfl, rfl⟩ | ⟨g, o, cap, cur, rfl, hB, hg, h1, h2, h3, h4⟩
  · omega
  · exact ⟨g, o, cap, rfl, h1, h2, fun i hi => by rw [cell_of_row _ _ _ _ _ _ hg]; exact h4 i hi⟩
/-- Its front cut off. -/
theorem OwnAt.cut {B n : Nat} {g o cap : Nat} {f : Nat → BitVec 8} {w : World} (h : OwnAt B (.slice (some ⟨g, o, none⟩) n cap) n f w) (e : Nat) (he : e ≤ n) :
    OwnAt B (.slice (some ⟨g, o + e, none⟩) (n - e) (cap - e)) (n - e) (fun i => f (e + i)) w := by
  refine ⟨?_, h.base⟩
  rcases h.row with ⟨h1, _⟩ | ⟨g', o', cap', cur, h0, hB, hg, h1, h2, h3, h4⟩
  · cases h1
  · injection h0 with e1 e2 e3
    injection e1 with e1
    injection e1 with e1 e4
    subst e1 e3 e4
    exact .inr ⟨g, o + e, cap - e, cur, rfl, hB, hg, by omega, by omega, by omega, fun i hi => by rw [Nat.add_assoc]; exact h4 (e + i) (by omega)⟩
/-- What append leaves: v's own block may have changed, and there may be a new one. -/
structure GrewB (w w' : World) (v v' : Value) : Prop where
  size : w.heap.size ≤ w'.heap.size
  block : ∀ k, k < w.heap.size → v.ownBlock ≠ some k → w'.heap[k]? = w.heap[k]?
  below : ∀ B, B ≤ w.heap.size → (∀ k, v.ownBlock = some k → B ≤ k) → Below B w w'
  blk : v'.ownBlock = v.ownBlock ∨ ∃ k, v'.ownBlock = some k ∧ w.heap.size ≤ k
set_option maxHeartbeats 1000000 in
/-- MORE BYTES BEHIND WHAT IS OWNED. -/
theorem run_append_at {B n m : Nat} {v x : Value} {f g : Nat → BitVec 8} {w : World} {tx : TypeId} (ty : TypeId) (h : OwnAt B v n f w) (hs : Src Tryd.prog 1 tx x m (firsts g m) w) (hnm : n + m ≤ 200000000000000) :
    ∃ v' w', (Builtin.append_ #[31, tx] ty #[v, x]).run Tryd.prog w = .ok v' w' ∧ OwnAt B v' (n + m) (joinb f n g) w' ∧ GrewB w w' v v' := by
  obtain ⟨i, hi, hz, hsz, hby⟩ := info_u8'
  have hs' : Src Tryd.prog i.size tx x m (firsts g m) w := by rw [hsz]; exact hs
  have hm63 : n + m ≤ maxLen := by unfold maxLen; omega
  have grown : ∀ (base : Option Addr) (sCap : Nat), sCap < n + m → (Builtin.firstCells i.size n (.slice base n sCap)).run Tryd.prog w.drew = .ok (firsts f n).toArray w.drew → v = .slice base n sCap →
      ∃ v' w', (Builtin.append_ #[31, tx] ty #[v, x]).run Tryd.prog w = .ok v' w' ∧ OwnAt B v' (n + m) (joinb f n g) w' ∧ GrewB w w' v v' := by
    intro base sCap hlt hold hv
    subst hv
    have hr := run_append_grow_src (P := Tryd.prog) w 31 tx ty 5 i _ under_bytes hi hz base n sCap (firsts f n) hold x m (firsts g m) hs' hlt (by omega) (growslice_fits_wide hlt (by rw [hby]; omega))
    have hge := grownCap_ge w (n + m) sCap 5
    have hle := grownCap_le_maxLen w (n + m) sCap 5 hm63
    refine ⟨_, _, hr, ⟨.inr ⟨w.heap.size, 0, _, _, rfl, h.base, heap_alloc_new w.drew _, hge, hle, ?_, ?_⟩, by simp; exact Nat.le_succ_of_le h.base⟩, ?_⟩
    · simp only [Array.size_append, List.size_toArray, size_zeroCells, List.length_append, firsts_len, Value.cells]
      simp
      omega
    · intro j hj
      rw [firsts_append, Nat.zero_add, Array.getElem?_append_left (by simp [firsts_len]; exact hj)]
      rw [List.getElem?_toArray, firsts_get _ _ _ hj]
    · exact ⟨by simp, fun k hk _ => Below.heap_alloc w.drew _ k hk, fun B' hB' _ => ((Below.refl B' w).drew).alloc hB' _, .inr ⟨w.heap.size, rfl, Nat.le_refl _⟩⟩
  rcases h.row with ⟨rfl, rfl⟩ | ⟨b, o, cap, cur, rfl, hB, hg, h1, h2, h3, h4⟩
  · by_cases hm : m = 0
    · subst hm
      exact ⟨_, _, run_append_nothing (P := Tryd.prog) w 31 tx ty 5 i under_bytes hi none 0 0 (Nat.le_refl _) x hs', OwnAt.nil _ _ _ h.base, ⟨Nat.le_refl _, fun _ _ _ => rfl, fun _ _ _ => Below.refl _ _, .inl rfl⟩⟩
    · exact grown none 0 (by omega) (run_firstCells_none w.drew _ _ _ _) rfl
  · by_cases hroom : n + m ≤ cap
    · have hr := run_append_room_src (P := Tryd.prog) w 31 tx ty 5 i under_bytes hi b o n cap x m (firsts g m) hs' hroom
        (fun j hj => by rw [firsts_len] at hj; rw [cell_of_row _ _ _ _ _ _ hg, hsz, Nat.mul_one, Array.getElem?_eq_getElem (by omega)]; rfl) (fun j _ => frozen_of_row _ _ _ _ _ hg)
      rw [hsz] at hr
      simp only [Nat.mul_one] at hr
      obtain ⟨cs', q1, q2, q3⟩ := setCells_row b 5 (firsts g m) (o + n) w cur hg
      have hsize := setCells_size b (firsts g m) (o + n) w
      refine ⟨_, _, hr, ⟨.inr ⟨b, o, cap, cs', rfl, hB, q1, hroom, h2, by omega, ?_⟩, by rw [hsize]; exact h.base⟩, ⟨by rw [hsize]; exact Nat.le_refl _, fun k hk hne => setCells_other b k (fun e => hne (by rw [e]; rfl)) _ _ _, fun B' hB' hB2 => setCells_below B' b (hB2 b rfl) _ _ _ _ (Below.refl _ _), .inl rfl⟩⟩
      intro j hj
      rw [q3, firsts_len]
      by_cases hjn : j < n
      · rw [if_neg (by omega), h4 j hjn]
        simp [joinb, hjn]
      · rw [if_pos ⟨by omega, by omega, by omega⟩, show o + j - (o + n) = j - n by omega, firsts_get _ _ _ (by omega)]
        simp [joinb, hjn]
    · exact grown (some ⟨b, o, none⟩) cap (by omega) (run_firstCells_some w.drew _ n ⟨b, o, none⟩ n cap (firsts f n) (by rw [firsts_len, hsz, Nat.mul_one]) (fun j u hj => by
        have hjn : j < n := by
          have := (List.getElem?_eq_some_iff.1 hj).1
          rwa [firsts_len] at this
        rw [firsts_get _ _ _ hjn] at hj
        injection hj with hj
        rw [← hj, show ((⟨b, o, none⟩ : Addr).add j) = ⟨b, o + j, none⟩ from by unfold Addr.add; split <;> simp_all]
        show w.cell? _ = _
        rw [cell_of_row _ _ _ _ _ _ hg]
        exact h4 j hjn)) rfl
theorem step_append_at {ops : Array Oper} {o : Oper} {a : Act} {w : World} {K : Act → World → Prop} {Q : Exit → Act → World → Prop} {E : Prop} (hgd : o.guard = none) (s x : Operand) (tx : TypeId)
    (ho : o.op = .call { callee := .builtin .append, args := #[s, x], argTypes := #[31, tx] })
    {B n m : Nat} {v xv : Value} {f g : Nat → BitVec 8} (hs : a.eval s = v) (hx : a.eval x = xv) (h : OwnAt B v n f w) (hsrc : Src Tryd.prog 1 tx xv m (firsts g m) w) (hnm : n + m ≤ 200000000000000)
    (hk : ∀ v' w', OwnAt B v' (n + m) (joinb f n g) w' → GrewB w w' v v' → K (a.put o.dst v') w') : if Region.wanted o (yielded ops a.tmps) = true then Oper.wp Tryd.prog o a w K Q else E := by
  have hw : Region.wanted o (yielded ops a.tmps) = true := by simp [Region.wanted, hgd]
  rw [if_pos hw]
  obtain ⟨v', w', hr, h2, h3⟩ := run_append_at o.type h hsrc hnm
  unfold Oper.wp execOp
  simp only [ho, resolve, invoke, builtin, Sem.run_bind, Sem.run_pure, Result.andThen_ok, List.map_toArray, List.map_cons, List.map_nil, hs, hx, hr]
  exact hk v' w' h2 h3
theorem wpList_append_at {ops : Array Oper} {rest : List Oper} {o : Oper} {a : Act} {w : World} {Q : Exit → Act → World → Prop} (hgd : o.guard = none) (s x : Operand) (tx : TypeId)
    (ho : o.op = .call { callee := .builtin .append, args := #[s, x], argTypes := #[31, tx] })
    {B n m : Nat} {v xv : Value} {f g : Nat → BitVec 8} (hs : a.eval s = v) (hx : a.eval x = xv) (h : OwnAt B v n f w) (hsrc : Src Tryd.prog 1 tx xv m (firsts g m) w) (hnm : n + m ≤ 200000000000000)
    (hk : ∀ v' w', OwnAt B v' (n + m) (joinb f n g) w' → GrewB w w' v v' → wpList Tryd.prog ops Q rest (a.put o.dst v') w') : wpList Tryd.prog ops Q (o :: rest) a w :=
  wpList_plain hgd fun _ hK => by
    obtain ⟨v', w', hr, h2, h3⟩ := run_append_at o.type h hsrc hnm
    unfold Oper.wp execOp
    simp only [ho, resolve, invoke, builtin, Sem.run_bind, Sem.run_pure, Result.andThen_ok, List.map_toArray, List.map_cons, List.map_nil, hs, hx, hr]
    exact hK _ _ (hk v' w' h2 h3)
end Go.Proofs.YtjbpjoondmcnlabDoor
