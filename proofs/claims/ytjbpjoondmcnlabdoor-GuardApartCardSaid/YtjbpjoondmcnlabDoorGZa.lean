/-
  BYTES OF ONE'S OWN THAT MAY BEGIN WITHIN THEIR BLOCK: appended to, cut at their front.
  NOUGHTS BEHIND WHAT IS OWNED, AS MANY AS ONE LIKES ('append(b, make([]byte, k)...)').
  slices.Grow and slices.Concat of rows of bytes: made from DoqB.
  guard's small calls: what may be a number, whether keys are whole, a first byte hidden, what bytes tell.
  guard: the document's nonce and keys; bytes put together.
  guard: the mask that hides a first byte and a number, the program's and the document's.
  guard: what can be sealed.
  guard: the document's masked.
  guard: the document's Seal.
  guard: Seal.
-/
import Derived.Test.YtjbpjoondmcnlabDoorMg04
import Derived.Test.YtjbpjoondmcnlabDoorMg01
import Derived.Test.YtjbpjoondmcnlabDoorMg03
import Derived.Test.YtjbpjoondmcnlabDoorMg07
import Derived.Deep.AppendSrc
import Derived.Deep.Upon
import Derived.Deep.DeepAppendWide
import Derived.Below
import Derived.WalkKit
import Derived.WideLaws
import Derived.Test.YtjbpjoondmcnlabDoorMg06
import Derived.RegionTactic
import Derived.ChangeAlike
import Derived.BigQuiet
import Derived.Deep.RegionWith
import Derived.Deep.QuietTactic
import Derived.ProofKit
import Derived.Deep.DeepCutAuto
import Derived.Test.YtjbpjoondmcnlabDoorShaS
import Derived.Test.YtjbpjoondmcnlabDoorOwnZ
import Derived.Test.YtjbpjoondmcnlabDoorMg32
import Derived.Test.YtjbpjoondmcnlabDoorStrG
import Derived.Test.YtjbpjoondmcnlabDoorMg13
namespace Go.Proofs.YtjbpjoondmcnlabDoor
open Go Go.RowKit
set_option linter.unusedSimpArgs false
set_option maxRecDepth 100000
set_option linter.unusedVariables false
/-- v is a slice of the first n bytes of f, in a block of one's own from block B on. -/
structure OwnAt (B : Nat) (v : Value) (n : Nat) (f : Nat → BitVec 8) (w : World) : Prop where
  row : (v = .slice none 0 0 ∧ n = 0) ∨ ∃ g o cap, ∃ cur : Array Value, v = .slice (some ⟨g, o, none⟩) n cap ∧ B ≤ g ∧ w.heap[g]? = some (.cells cur 5 (0, 0)) ∧ n ≤ cap ∧ cap ≤ maxLen ∧ o + cap ≤ cur.size ∧ ∀ i, i < n → cur[o + i]? = some (.int .u8 (n8 (f i)))
  base : B ≤ w.heap.size
theorem OwnAt.nil (B : Nat) (f : Nat → BitVec 8) (w : World) (hB : B ≤ w.heap.size) : OwnAt B (.slice none 0 0) 0 f w := ⟨.inl ⟨rfl, rfl⟩, hB⟩
theorem OwnAt.congr {B n : Nat} {v : Value} {f g : Nat → BitVec 8} {w : World} (h : OwnAt B v n f w) (hfg : ∀ i, i < n → f i = g i) : OwnAt B v n g w := by
  refine ⟨?_, h.base⟩
  rcases h.row with h1 | ⟨b, o, cap, cur, rfl, hB, hg, h1, h2, h3, h4⟩
  · exact .inl h1
  · exact .inr ⟨b, o, cap, cur, rfl, hB, hg, h1, h2, h3, fun i hi => by rw [h4 i hi, hfg i hi]⟩
theorem OwnAt.lt {B n k : Nat} {v : Value} {f : Nat → BitVec 8} {w : World} (h : OwnAt B v n f w) (hk : v.ownBlock = some k) : B ≤ k ∧ k < w.heap.size := by
  rcases h.row with ⟨rfl, _⟩ | ⟨g, o, cap, cur, rfl, hB, hg, _⟩
  · cases hk
  · injection hk with hk; subst hk; exact ⟨hB, lt_row hg⟩
/-- Other blocks may change. -/
theorem OwnAt.kept {B n : Nat} {v : Value} {f : Nat → BitVec 8} {w w' : World} (h : OwnAt B v n f w) (hs : w.heap.size ≤ w'.heap.size) (hk : ∀ g, v.ownBlock = some g → g < w.heap.size → w'.heap[g]? = w.heap[g]?) : OwnAt B v n f w' := by
  refine ⟨?_, Nat.le_trans h.base hs⟩
  rcases h.row with h1 | ⟨g, o, cap, cur, rfl, hB, hg, r⟩
  · exact .inl h1
  · exact .inr ⟨g, o, cap, cur, rfl, hB, (hk g rfl (lt_row hg)).trans hg, r⟩
theorem OwnAt.later {B n : Nat} {v : Value} {f : Nat → BitVec 8} {w w' : World} (h : OwnAt B v n f w) (hb : Below w.heap.size w w') : OwnAt B v n f w' :=
  h.kept hb.size (fun g _ hg => hb.block g hg)
theorem OwnAt.slice {B n : Nat} {v : Value} {f : Nat → BitVec 8} {w : World} (h : OwnAt B v n f w) : ∃ a cap, v = .slice a n cap := by
  rcases h.row with ⟨rfl, rfl⟩ | ⟨g, o, cap, cur, rfl, _⟩
  · exact ⟨_, _, rfl⟩
  · exact ⟨_, _, rfl⟩
theorem OwnAt.at {B n i : Nat} {v : Value} {f : Nat → BitVec 8} {w : World} (h : OwnAt B v n f w) (hi : i < n) : ∃ g o cap, v = .slice (some ⟨g, o, none⟩) n cap ∧ n ≤ cap ∧ cap ≤ maxLen ∧ ∀ i, i < n → w.cell? ⟨g, o + i, none⟩ = some (.int .u8 (n8 (f i))) := by
  rcases h.row with ⟨rfl, rfl⟩ | ⟨g, o, cap, cur, rfl, hB, hg, h1, h2, h3, h4⟩
  · omega
  · exact ⟨g, o, cap, rfl, h1, h2, fun i hi => by rw [cell_of_row _ _ _ _ _ _ hg]; exact h4 i hi⟩
/-- Its front cut off. -/
theorem OwnAt.cut {B n : Nat} {g o cap : Nat} {f : Nat → BitVec 8} {w : World} (h : OwnAt B (.slice (some ⟨g, o, none⟩) n cap) n f w) (e : Nat) (he : e ≤ n) :
    OwnAt B (.slice (some ⟨g, o + e, none⟩) (n - e) (cap - e)) (n - e) (fun i => f (e + i)) w := by
  refine ⟨?_, h.base⟩
  rcases h.row with ⟨h1, _⟩ | ⟨g', o', cap', cur, h0, hB, hg, h1, h2, h3, h4⟩
  · cases h1
  · injection h0 with e1 e2 e3
    injection e1 with e1
    injection e1 with e1 e4
    subst e1 e3 e4
    exact .inr ⟨g, o + e, cap - e, cur, rfl, hB, hg, by omega, by omega, by omega, fun i hi => by rw [Nat.add_assoc]; exact h4 (e + i) (by omega)⟩
/-- What append leaves: v's own block may have changed, and there may be a new one. -/
structure GrewB (w w' : World) (v v' : Value) : Prop where
  size : w.heap.size ≤ w'.heap.size
  block : ∀ k, k < w.heap.size → v.ownBlock ≠ some k → w'.heap[k]? = w.heap[k]?
  below : ∀ B, B ≤ w.heap.size → (∀ k, v.ownBlock = some k → B ≤ k) → Below B w w'
  blk : v'.ownBlock = v.ownBlock ∨ ∃ k, v'.ownBlock = some k ∧ w.heap.size ≤ k
set_option maxHeartbeats 1000000 in
/-- MORE BYTES BEHIND WHAT IS OWNED. -/
theorem run_append_at {B n m : Nat} {v x : Value} {f g : Nat → BitVec 8} {w : World} {tx : TypeId} (ty : TypeId) (h : OwnAt B v n f w) (hs : Src Tryd.prog 1 tx x m (firsts g m) w) (hnm : n + m ≤ 200000000000000) :
    ∃ v' w', (Builtin.append_ #[31, tx] ty #[v, x]).run Tryd.prog w = .ok v' w' ∧ OwnAt B v' (n + m) (joinb f n g) w' ∧ GrewB w w' v v' := by
  obtain ⟨i, hi, hz, hsz, hby⟩ := info_u8'
  have hs' : Src Tryd.prog i.size tx x m (firsts g m) w := by rw [hsz]; exact hs
  have hm63 : n + m ≤ maxLen := by unfold maxLen; omega
  have grown : ∀ (base : Option Addr) (sCap : Nat), sCap < n + m → (Builtin.firstCells i.size n (.slice base n sCap)).run Tryd.prog w.drew = .ok (firsts f n).toArray w.drew → v = .slice base n sCap →
      ∃ v' w', (Builtin.append_ #[31, tx] ty #[v, x]).run Tryd.prog w = .ok v' w' ∧ OwnAt B v' (n + m) (joinb f n g) w' ∧ GrewB w w' v v' := by
    intro base sCap hlt hold hv
    subst hv
    have hr := run_append_grow_src (P := Tryd.prog) w 31 tx ty 5 i _ under_bytes hi hz base n sCap (firsts f n) hold x m (firsts g m) hs' hlt (by omega) (growslice_fits_wide hlt (by rw [hby]; omega))
    have hge := grownCap_ge w (n + m) sCap 5
    have hle := grownCap_le_maxLen w (n + m) sCap 5 hm63
    refine ⟨_, _, hr, ⟨.inr ⟨w.heap.size, 0, _, _, rfl, h.base, heap_alloc_new w.drew _, hge, hle, ?_, ?_⟩, by simp; exact Nat.le_succ_of_le h.base⟩, ?_⟩
    · simp only [Array.size_append, List.size_toArray, size_zeroCells, List.length_append, firsts_len, Value.cells]
      simp
      omega
    · intro j hj
      rw [firsts_append, Nat.zero_add, Array.getElem?_append_left (by simp [firsts_len]; exact hj)]
      rw [List.getElem?_toArray, firsts_get _ _ _ hj]
    · exact ⟨by simp, fun k hk _ => Below.heap_alloc w.drew _ k hk, fun B' hB' _ => ((Below.refl B' w).drew).alloc hB' _, .inr ⟨w.heap.size, rfl, Nat.le_refl _⟩⟩
  rcases h.row with ⟨rfl, rfl⟩ | ⟨b, o, cap, cur, rfl, hB, hg, h1, h2, h3, h4⟩
  · by_cases hm : m = 0
    · subst hm
      exact ⟨_, _, run_append_nothing (P := Tryd.prog) w 31 tx ty 5 i under_bytes hi none 0 0 (Nat.le_refl _) x hs', OwnAt.nil _ _ _ h.base, ⟨Nat.le_refl _, fun _ _ _ => rfl, fun _ _ _ => Below.refl _ _, .inl rfl⟩⟩
    · exact grown none 0 (by omega) (run_firstCells_none w.drew _ _ _ _) rfl
  · by_cases hroom : n + m ≤ cap
    · have hr := run_append_room_src (P := Tryd.prog) w 31 tx ty 5 i under_bytes hi b o n cap x m (firsts g m) hs' hroom
        (fun j hj => by rw [firsts_len] at hj; rw [cell_of_row _ _ _ _ _ _ hg, hsz, Nat.mul_one, Array.getElem?_eq_getElem (by omega)]; rfl) (fun j _ => frozen_of_row _ _ _ _ _ hg)
      rw [hsz] at hr
      simp only [Nat.mul_one] at hr
      obtain ⟨cs', q1, q2, q3⟩ := setCells_row b 5 (firsts g m) (o + n) w cur hg
      have hsize := setCells_size b (firsts g m) (o + n) w
      refine ⟨_, _, hr, ⟨.inr ⟨b, o, cap, cs', rfl, hB, q1, hroom, h2, by omega, ?_⟩, by rw [hsize]; exact h.base⟩, ⟨by rw [hsize]; exact Nat.le_refl _, fun k hk hne => setCells_other b k (fun e => hne (by rw [e]; rfl)) _ _ _, fun B' hB' hB2 => setCells_below B' b (hB2 b rfl) _ _ _ _ (Below.refl _ _), .inl rfl⟩⟩
      intro j hj
      rw [q3, firsts_len]
      by_cases hjn : j < n
      · rw [if_neg (by omega), h4 j hjn]
        simp [joinb, hjn]
      · rw [if_pos ⟨by omega, by omega, by omega⟩, show o + j - (o + n) = j - n by omega, firsts_get _ _ _ (by omega)]
        simp [joinb, hjn]
    · exact grown (some ⟨b, o, none⟩) cap (by omega) (run_firstCells_some w.drew _ n ⟨b, o, none⟩ n cap (firsts f n) (by rw [firsts_len, hsz, Nat.mul_one]) (fun j u hj => by
        have hjn : j < n := by
          have := (List.getElem?_eq_some_iff.1 hj).1
          rwa [firsts_len] at this
        rw [firsts_get _ _ _ hjn] at hj
        injection hj with hj
        rw [← hj, show ((⟨b, o, none⟩ : Addr).add j) = ⟨b, o + j, none⟩ from by unfold Addr.add; split <;> simp_all]
        show w.cell? _ = _
        rw [cell_of_row _ _ _ _ _ _ hg]
        exact h4 j hjn)) rfl
theorem step_append_at {ops : Array Oper} {o : Oper} {a : Act} {w : World} {K : Act → World → Prop} {Q : Exit → Act → World → Prop} {E : Prop} (hgd : o.guard = none) (s x : Operand) (tx : TypeId)
    (ho : o.op = .call { callee := .builtin .append, args := #[s, x], argTypes := #[31, tx] })
    {B n m : Nat} {v xv : Value} {f g : Nat → BitVec 8} (hs : a.eval s = v) (hx : a.eval x = xv) (h : OwnAt B v n f w) (hsrc : Src Tryd.prog 1 tx xv m (firsts g m) w) (hnm : n + m ≤ 200000000000000)
    (hk : ∀ v' w', OwnAt B v' (n + m) (joinb f n g) w' → GrewB w w' v v' → K (a.put o.dst v') w') : if Region.wanted o (yielded ops a.tmps) = true then Oper.wp Tryd.prog o a w K Q else E := by
  have hw : Region.wanted o (yielded ops a.tmps) = true := by simp [Region.wanted, hgd]
  rw [if_pos hw]
  obtain ⟨v', w', hr, h2, h3⟩ := run_append_at o.type h hsrc hnm
  unfold Oper.wp execOp
  simp only [ho, resolve, invoke, builtin, Sem.run_bind, Sem.run_pure, Result.andThen_ok, List.map_toArray, List.map_cons, List.map_nil, hs, hx, hr]
  exact hk v' w' h2 h3
theorem wpList_append_at {ops : Array Oper} {rest : List Oper} {o : Oper} {a : Act} {w : World} {Q : Exit → Act → World → Prop} (hgd : o.guard = none) (s x : Operand) (tx : TypeId)
    (ho : o.op = .call { callee := .builtin .append, args := #[s, x], argTypes := #[31, tx] })
    {B n m : Nat} {v xv : Value} {f g : Nat → BitVec 8} (hs : a.eval s = v) (hx : a.eval x = xv) (h : OwnAt B v n f w) (hsrc : Src Tryd.prog 1 tx xv m (firsts g m) w) (hnm : n + m ≤ 200000000000000)
    (hk : ∀ v' w', OwnAt B v' (n + m) (joinb f n g) w' → GrewB w w' v v' → wpList Tryd.prog ops Q rest (a.put o.dst v') w') : wpList Tryd.prog ops Q (o :: rest) a w :=
  wpList_plain hgd fun _ hK => by
    obtain ⟨v', w', hr, h2, h3⟩ := run_append_at o.type h hsrc hnm
    unfold Oper.wp execOp
    simp only [ho, resolve, invoke, builtin, Sem.run_bind, Sem.run_pure, Result.andThen_ok, List.map_toArray, List.map_cons, List.map_nil, hs, hx, hr]
    exact hK _ _ (hk v' w' h2 h3)
end Go.Proofs.YtjbpjoondmcnlabDoor
namespace Go.Proofs.YtjbpjoondmcnlabDoor
open Go Go.RowKit
set_option maxRecDepth 100000
set_option linter.unusedSimpArgs false
theorem zerosK (k : Nat) : Builtin.zeroCells (Value.cells (.int .u8 0)) k = (firsts (fun _ => 0#8) k).toArray := by
  have e : n8 0#8 = 0 := by unfold n8; rfl
  apply Array.ext_getElem?
  intro i
  by_cases h : i < k
  · simp [Builtin.zeroCells, Value.cells, firsts, e, Nat.mod_one, h]
  · simp [Builtin.zeroCells, Value.cells, firsts, e, Nat.mod_one, h]
theorem append_same_k (ty : TypeId) (base : Option Addr) (n cap k : Nat) (w : World) (hn : n ≤ 199999999999988) (hk : k ≤ 1000) (hk1 : 1 ≤ k) :
    (Builtin.append_ #[31, 3] ty #[.slice base n cap, .int .i64 (k : Int)]).run Tryd.prog w = (Builtin.append_ #[31, 9] ty #[.slice base n cap, .string (strOf (fun _ => 0#8) k)]).run Tryd.prog w := by
  obtain ⟨i, hi, hz, hsz, hby⟩ := info_u8'
  have h1 := under_bytes
  have h2 : Tryd.prog.underlying 3 = some (.int .i64) := by kernel_rfl
  have h3 : Tryd.prog.underlying 9 = some .string := by kernel_rfl
  have hs := strOf_size (fun _ => 0#8) k
  have hf : ∀ w', (Builtin.firstCells 1 k (.string (strOf (fun _ => 0#8) k))).run Tryd.prog w' = .ok (firsts (fun _ => 0#8) k).toArray w' := fun w' => by
    have h := firstCells_string (P := Tryd.prog) (strOf (fun _ => 0#8) k) w'
    rw [hs, byteCells_str] at h
    exact h
  have hl : ∀ w', (Builtin.lenOf (.string (strOf (fun _ => 0#8) k))).run Tryd.prog w' = .ok k w' := fun w' => by simp [Builtin.lenOf, hs]
  have hw : IntKind.i64.wrap (k : Int) = (k : Int) := by rw [IntKind.wrap_i64]; omega
  generalize strOf (fun _ => 0#8) k = S at *
  have q1 : ¬ ((k : Int) < 0) := by omega
  have q2 : ¬ ((281474976710656 : Int) < (k : Int)) := by omega
  have q3 : ¬ k = 0 := by omega
  by_cases hroom : n + k ≤ cap
  · simp [Builtin.append_, run_underlying h1, run_underlying h2, run_underlying h3, sizeOf, typeInfo, zeroValue, hi, hz, hsz, hby, hl, hf, hw, hroom, zerosK k, asInt, asIntOf, q1, q2, q3]
  · have h63' : ¬ (9223372036854775807 < ((n : Int) + (k : Int))) := by omega
    have h48 := growslice_fits_wide (need := n + k) (old := cap) (bytes := 1) (by omega) (by omega)
    rw [Nat.mul_one] at h48
    have h48' : ¬ (281474976710656 < Builtin.nextslicecap (n + k) cap) := by omega
    simp [Builtin.append_, run_underlying h1, run_underlying h2, run_underlying h3, sizeOf, typeInfo, zeroValue, hi, hz, hsz, hby, hl, hf, hw, hroom, zerosK k, asInt, asIntOf, q1, q2, q3, h63', h48', h48]
    try (intro h; exfalso; omega)
theorem run_append_noughts {B n : Nat} {v : Value} {f : Nat → BitVec 8} {w : World} (ty : TypeId) (k : Nat) (hk0 : k ≤ 1000) (hk1 : 1 ≤ k) (h : Own B v n f w) (hn : n ≤ 199999999999000) :
    ∃ v' w', (Builtin.append_ #[31, 3] ty #[v, .int .i64 (k : Int)]).run Tryd.prog w = .ok v' w' ∧ Own B v' (n + k) (joinb f n (fun _ => 0#8)) w' ∧ GrownV w w' v v' := by
  obtain ⟨v', w', h1, h2, h3⟩ := run_append_bytes ty h (src_str (fun _ => 0#8) k w) (by omega)
  refine ⟨v', w', ?_, h2, h3⟩
  rcases h.row.2 with ⟨rfl, _⟩ | ⟨b, cap, cur, rfl, _⟩
  · rw [append_same_k ty none 0 0 k w (by omega) hk0 hk1]
    obtain rfl : n = 0 := by assumption
    exact h1
  · rw [append_same_k ty _ n cap k w (by omega) hk0 hk1]; exact h1
theorem wpList_append_noughts {ops : Array Oper} {rest : List Oper} {o : Oper} {a : Act} {w : World} {Q : Exit → Act → World → Prop} (k : Nat) (hk0 : k ≤ 1000) (hk1 : 1 ≤ k) (hw : Region.wanted o (yielded ops a.tmps) = true) (s x : Operand)
    (ho : o.op = .call { callee := .builtin .append, args := #[s, x], argTypes := #[31, 3] })
    {B n : Nat} {v : Value} {f : Nat → BitVec 8} (hs : a.eval s = v) (hx : a.eval x = .int .i64 (k : Int)) (h : Own B v n f w) (hn : n ≤ 199999999999000)
    (hk : ∀ v' w', Own B v' (n + k) (joinb f n (fun _ => 0#8)) w' → GrownV w w' v v' → wpList Tryd.prog ops Q rest (a.put o.dst v') w') : wpList Tryd.prog ops Q (o :: rest) a w :=
  wpList_step fun K hK => by
    rw [if_pos hw]
    obtain ⟨v', w', hr, h2, h3⟩ := run_append_noughts o.type k hk0 hk1 h hn
    unfold Oper.wp execOp
    simp only [ho, resolve, invoke, builtin, Sem.run_bind, Sem.run_pure, Result.andThen_ok, List.map_toArray, List.map_cons, List.map_nil, hs, hx, hr]
    exact hK _ _ (hk v' w' h2 h3)
end Go.Proofs.YtjbpjoondmcnlabDoor
namespace Go.Proofs.YtjbpjoondmcnlabDoor
open Go Go.RowKit Go.BigFrame
set_option linter.unusedSimpArgs false
set_option linter.unusedVariables false
set_option maxRecDepth 100000
theorem append_zeros_nil (ty : TypeId) (k : Nat) (w : World) (hk : k ≤ 100000) (hk1 : 1 ≤ k) :
    (Builtin.append_ #[31, 3] ty #[.slice none 0 0, .int .i64 (k : Int)]).run Tryd.prog w = (Builtin.append_ #[31, 9] ty #[.slice none 0 0, .string (strOf (fun _ => 0#8) k)]).run Tryd.prog w := by
  obtain ⟨i, hi, hz, hsz, hby⟩ := info_u8'
  have h1 := under_bytes
  have h2 : Tryd.prog.underlying 3 = some (.int .i64) := by kernel_rfl
  have h3 : Tryd.prog.underlying 9 = some .string := by kernel_rfl
  have hs := strOf_size (fun _ => 0#8) k
  have hf : ∀ w', (Builtin.firstCells 1 k (.string (strOf (fun _ => 0#8) k))).run Tryd.prog w' = .ok (firsts (fun _ => 0#8) k).toArray w' := fun w' => by
    have h := firstCells_string (P := Tryd.prog) (strOf (fun _ => 0#8) k) w'
    rw [hs, byteCells_str] at h
    exact h
  have hl : ∀ w', (Builtin.lenOf (.string (strOf (fun _ => 0#8) k))).run Tryd.prog w' = .ok k w' := fun w' => by simp [Builtin.lenOf, hs]
  have hw : IntKind.i64.wrap (k : Int) = (k : Int) := by rw [IntKind.wrap_i64]; omega
  generalize strOf (fun _ => 0#8) k = S at *
  have q1 : ¬ ((k : Int) < 0) := by omega
  have q2 : ¬ ((281474976710656 : Int) < (k : Int)) := by omega
  have q3 : ¬ k = 0 := by omega
  have h63' : ¬ (9223372036854775807 < ((k : Int))) := by omega
  have h48 := growslice_fits_wide (need := k) (old := 0) (bytes := 1) (by omega) (by omega)
  rw [Nat.mul_one] at h48
  have h48' : ¬ (281474976710656 < Builtin.nextslicecap k 0) := by omega
  simp [Builtin.append_, run_underlying h1, run_underlying h2, run_underlying h3, sizeOf, typeInfo, zeroValue, hi, hz, hsz, hby, hl, hf, hw, zerosK k, asInt, asIntOf, q1, q2, q3, h63', h48', h48]
  try (intro h; exfalso; omega)
theorem run_append_zeros_nil (ty : TypeId) (k : Nat) (w : World) (hk : k ≤ 100000) (hk1 : 1 ≤ k) :
    ∃ v' w', (Builtin.append_ #[31, 3] ty #[.slice none 0 0, .int .i64 (k : Int)]).run Tryd.prog w = .ok v' w' ∧ OwnAt w.heap.size v' k (joinb (fun _ => 0#8) 0 (fun _ => 0#8)) w' ∧ GrewB w w' (.slice none 0 0) v' := by
  obtain ⟨v', w', h1, h2, h3⟩ := run_append_at ty (OwnAt.nil w.heap.size (fun _ => 0#8) w (Nat.le_refl _)) (src_str (fun _ => 0#8) k w) (by omega)
  rw [Nat.zero_add] at h2
  exact ⟨v', w', (append_zeros_nil ty k w hk hk1).trans h1, h2, h3⟩
theorem wpList_zeros_nil {ops : Array Oper} {rest : List Oper} {o : Oper} {a : Act} {w : World} {Q : Exit → Act → World → Prop} (hgd : o.guard = none) (s x : Operand) (k : Nat) (hk : k ≤ 100000) (hk1 : 1 ≤ k)
    (ho : o.op = .call { callee := .builtin .append, args := #[s, x], argTypes := #[31, 3] }) (hs : a.eval s = .slice none 0 0) (hx : a.eval x = .int .i64 (k : Int))
    (h : ∀ v' w', OwnAt w.heap.size v' k (joinb (fun _ => 0#8) 0 (fun _ => 0#8)) w' → GrewB w w' (.slice none 0 0) v' → wpList Tryd.prog ops Q rest (a.put o.dst v') w') : wpList Tryd.prog ops Q (o :: rest) a w :=
  wpList_plain hgd fun _ hK => by
    obtain ⟨v', w', hr, h2, h3⟩ := run_append_zeros_nil o.type k w hk hk1
    unfold Oper.wp execOp
    simp only [ho, resolve, invoke, builtin, Sem.run_bind, Sem.run_pure, Result.andThen_ok, List.map_toArray, List.map_cons, List.map_nil, hs, hx, hr]
    exact hK _ _ (h v' w' h2 h3)
theorem run_upto_cc (w : World) (a : Option Addr) (k m c : Nat) (K : Int) (hK : K = (k : Int)) (hk : k ≤ m) (hm : m ≤ c) : (Instr.sliceAt 31 (.slice a m c) none (some (.int .i64 K)) none).run Tryd.prog w = .ok (.slice a k c) w := by
  subst hK
  have hkc : k ≤ c := Nat.le_trans hk hm
  have hu : Tryd.prog.underlying 31 = some (.slice (Tryd.prog.elem 31)) := by kernel_rfl
  rw [run_sliceAt_slice (t := 31) (h := hu), run_slice_any (t := 31) (ht := hu)]
  have h0 : (0 : Int) ≤ (k : Int) := by omega
  have h1 : (k : Int) ≤ (c : Int) := by omega
  simp [Instr.sliceBounds, go_sem, h0, h1]
/-- Only the first k. -/
theorem OwnAt.upto {B n : Nat} {a : Option Addr} {c : Nat} {f : Nat → BitVec 8} {w : World} (h : OwnAt B (.slice a n c) n f w) (k : Nat) (hk : k ≤ n) : OwnAt B (.slice a k c) k f w := by
  refine ⟨?_, h.base⟩
  rcases h.row with ⟨h1, h2⟩ | ⟨g, o, cap, cur, h0, hB, hg, h1, h2, h3, h4⟩
  · injection h1 with e1 e2 e3
    subst e1 e3
    exact .inl ⟨by rw [show k = 0 by omega], by omega⟩
  · injection h0 with e1 e2 e3
    subst e1 e3
    exact .inr ⟨g, o, c, cur, rfl, hB, hg, by omega, h2, h3, fun i hi => h4 i (by omega)⟩
theorem below_of_grew {w w1 : World} {v v' : Value} (h : GrewB w w1 v v') (hv : v.ownBlock = none) : Below w.heap.size w w1 := h.below _ (Nat.le_refl _) (fun k hk => by rw [hv] at hk; cases hk)
set_option maxHeartbeats 2000000 in
/-- slices.Grow of none. -/
theorem grow_nil (k : Nat) (hk : k ≤ 100000) (hk1 : 1 ≤ k) (w : World) :
    Calls Tryd.prog 53 #[.slice none 0 0, .int .i64 (k : Int)] w fun e w' => ∃ v, e = .returned v ∧ OwnAt w.heap.size v 0 (fun _ => 0#8) w' ∧ Below w.heap.size w w' := by
  have s0 := fun w' => run_upto_cc w' none 0 0 0 0 rfl (Nat.le_refl _) (Nat.le_refl _)
  have h1 : ¬ ((k : Int) < 0) := by omega
  have h2 : (k : Int) > 0 := by omega
  have h3 : decide ((k : Int) < 0) = false := decide_eq_false h1
  have h4 : decide ((k : Int) > 0) = true := decide_eq_true h2
  have h5 : wrap64 (k : Int) = (k : Int) := by unfold wrap64; omega
  go_enter Tryd.func53, Tryd.ntmps53
  go_wp2_with (at_builtin; refine wpList_zeros_nil (o := ⟨some 22, _, _, _, _, _⟩) rfl _ _ k hk hk1 rfl rfl rfl ?_; intro v' w1 ho hg; obtain ⟨a2, c2, rfl⟩ := ho.slice; have O1 := Lib.hid ho; have G1 := Lib.hid (below_of_grew hg rfl); have s1 := fun w' => run_upto_cc w' a2 0 k c2 0 rfl (by omega) (by rcases ho.row with ⟨h1, h2⟩ | ⟨g, o, cap, cur, h0, hB, hg, h1, h2, h3, h4⟩; { omega }; { injection h0 with e1 e2 e3; omega }); clear ho hg)
  go_ret
  exact ⟨_, rfl, (O1.out.upto 0 (by omega)).congr (fun i hi => by omega), G1.out⟩
/-- What parts make together. -/
def lenTo (L : Nat → Nat) : Nat → Nat
  | 0 => 0
  | k + 1 => lenTo L k + L k
def catTo (L : Nat → Nat) (F : Nat → Nat → BitVec 8) : Nat → Nat → BitVec 8
  | 0 => fun _ => 0#8
  | k + 1 => joinb (catTo L F k) (lenTo L k) (F k)
theorem lenTo_le (L : Nat → Nat) {i j : Nat} (h : i ≤ j) : lenTo L i ≤ lenTo L j := by
  induction j with
  | zero => rw [show i = 0 by omega]; exact Nat.le_refl _
  | succ j ih =>
    by_cases h1 : i = j + 1
    · rw [h1]; exact Nat.le_refl _
    · exact Nat.le_trans (ih (by omega)) (Nat.le_add_right _ _)
set_option maxHeartbeats 4000000 in
/-- slices.Concat of n rows of bytes. -/
theorem concat_any (lb lo n lc : Nat) (A : Nat → Option Addr) (L C : Nat → Nat) (F : Nat → Nat → BitVec 8) (w : World) (hn : n ≤ 1000) (hlen : lenTo L n ≤ 100000) (h1 : 1 ≤ lenTo L n)
    (hcell : ∀ k, k < n → w.cell? ⟨lb, lo + k, none⟩ = some (.slice (A k) (L k) (C k))) (hlb : lb < w.heap.size) (hin : ∀ k, k < n → BytesIn w (A k) (L k) (F k)) :
    Calls Tryd.prog 29 #[.slice (some ⟨lb, lo, none⟩) n lc] w fun e w' => ∃ v, e = .returned v ∧ OwnAt w.heap.size v (lenTo L n) (catTo L F n) w' ∧ Below w.heap.size w w' := by
  have HC := Lib.hid hcell
  have HI := Lib.hid hin
  have HL := Lib.hid hlen
  clear hcell hin hlen
  go_enter Tryd.func29, Tryd.ntmps29
  go_wp2_with fail
  go_loopw [3, 5, 11] (fun s3 s5 s11 wr => ∃ k : Nat, k ≤ n ∧ s11 = .int .i64 (k : Int) ∧ s3 = .int .i64 (lenTo L k : Int) ∧ w = wr) (fun _ _ s11 _ => n - (intOf s11).toNat)
  case atStart => exact ⟨0, by omega, rfl, rfl, rfl⟩
  case round =>
    obtain ⟨k, hk, rfl, rfl, rfl⟩ := hrel
    by_cases hlt : k < n
    · have hlI : (k : Int) < (n : Int) := by omega
      have k1 := HC.out k hlt
      have hle : lenTo L k + L k ≤ 100000 := Nat.le_trans (lenTo_le L (show k + 1 ≤ n from hlt)) HL.out
      go_wp2_with fail
      go_roundw
      case rel => exact ⟨k + 1, by omega, by go_num, congrArg (Value.int .i64) (by show _ = ((lenTo L k + L k : Nat) : Int); omega), trivial⟩
      case measure => (simp [intOf] <;> omega)
    · obtain rfl : k = n := by omega
      have hN : ¬ ((k : Int) < (k : Int)) := by omega
      have CG := Lib.hid (fun w => grow_nil (lenTo L k) HL.out h1 w)
      go_wp2_with (go_at_call 53; refine (CG.out _).mono ?_; rintro e w1 ⟨v1, rfl, ho, hb⟩; have O1 := Lib.hid ho; have B1 := Lib.hid hb; clear ho hb)
      go_loopw [6, 8, 27] (fun s6 s8 s27 wr => ∃ j : Nat, j ≤ k ∧ s27 = .int .i64 (j : Int) ∧ OwnAt w.heap.size s6 (lenTo L j) (catTo L F j) wr ∧ Below w.heap.size w wr) (fun _ _ s27 _ => k - (intOf s27).toNat)
      case atStart => exact ⟨0, by omega, rfl, O1.out, B1.out⟩
      case round =>
        obtain ⟨j, hj, rfl, ho, hb⟩ := hrel
        have O2 := Lib.hid ho
        have B2 := Lib.hid hb
        clear ho hb
        by_cases hlt : j < k
        · have hlI : (j : Int) < (k : Int) := by omega
          have k1 : wr.cell? ⟨lb, lo + j, none⟩ = some (.slice (A j) (L j) (C j)) := by
            rw [B2.out.cell (p := ⟨lb, lo + j, none⟩) hlb]
            exact HC.out j hlt
          have hle : lenTo L j + L j ≤ 100000 := Nat.le_trans (lenTo_le L (show j + 1 ≤ k from hlt)) HL.out
          have SR := Lib.hid (src_in (bytesIn_later (HI.out j hlt) B2.out) (C j))
          go_wp2_with (at_builtin; refine wpList_append_at (o := ⟨some 33, _, _, _, _, _⟩) rfl _ _ 31 rfl rfl rfl O2.out SR.out (by omega) ?_; intro v' w4 ho hg; obtain ⟨a2, c2, rfl⟩ := ho.slice; have O4 := Lib.hid ho; have G4 := Lib.hid hg; clear ho hg)
          go_roundw
          case rel => exact ⟨j + 1, by omega, by go_num, O4.out, B2.out.trans (G4.out.below _ O2.out.base (fun k hk => (O2.out.lt hk).1))⟩
          case measure => (simp [intOf] <;> omega)
        · obtain rfl : j = k := by omega
          have hN2 : ¬ ((j : Int) < (j : Int)) := by omega
          go_wp2_with fail
          go_ret
          exact ⟨_, rfl, O2.out, B2.out⟩
end Go.Proofs.YtjbpjoondmcnlabDoor
namespace Go.Proofs.YtjbpjoondmcnlabDoor
open Go Go.RowKit Go.BigFrame
set_option linter.unusedSimpArgs false
set_option linter.unusedVariables false
set_option maxRecDepth 100000
def lastN : Int := 4611686018427387903
theorem numbers_any (n : Int) (w : World) : Calls Tryd.prog 35 #[.int .i64 n] w fun e w' => e = .returned (.bool (decide (0 ≤ n ∧ n ≤ 4611686018427387903))) ∧ w = w' := by
  by_cases h : 0 ≤ n ∧ n ≤ 4611686018427387903
  · obtain ⟨h1, h2⟩ := h
    rw [decide_eq_true (show 0 ≤ n ∧ n ≤ 4611686018427387903 from ⟨h1, h2⟩)]
    go_enter Tryd.func35, Tryd.ntmps35
    go_wp2_with fail
    go_ret
    exact ⟨rfl, rfl⟩
  · rw [decide_eq_false h]
    by_cases h1 : 0 ≤ n
    · have h2 : ¬ n ≤ 4611686018427387903 := fun h2 => h ⟨h1, h2⟩
      go_enter Tryd.func35, Tryd.ntmps35
      go_wp2_with fail
      go_ret
      exact ⟨rfl, rfl⟩
    · go_enter Tryd.func35, Tryd.ntmps35
      go_wp2_with fail
      go_ret
      exact ⟨rfl, rfl⟩
def kysC (K I M : ByteArray) : Array Value := #[.string K, .string I, .string M]
theorem kys_cells {w : World} {b : Nat} {T : TypeId} {K I M : ByteArray} (h : w.heap[b]? = some (.cells (kysC K I M) T (0, 0))) :
    w.cell? ⟨b, 0, none⟩ = some (.string K) ∧ w.cell? ⟨b, 1, none⟩ = some (.string I) ∧ w.cell? ⟨b, 2, none⟩ = some (.string M) :=
  ⟨by rw [cell_of_row _ _ _ _ _ _ h]; rfl, by rw [cell_of_row _ _ _ _ _ _ h]; rfl, by rw [cell_of_row _ _ _ _ _ _ h]; rfl⟩
theorem whole_any (K I M : ByteArray) (k i m : Nat) (hK : K.size = k) (hI : I.size = i) (hM : M.size = m) (w : World) :
    Calls Tryd.prog 36 #[.agg (kysC K I M)] w fun e w' => e = .returned (.bool (decide (k = 16 ∧ i = 12 ∧ m = 16))) ∧ Below w.heap.size w w' := by
  have R0 : (w.alloc (.cells (kysC K I M) 34)).heap[w.heap.size]? = some (.cells (kysC K I M) 34 (0, 0)) := heap_alloc_last _ _
  have HB := Lib.hid ((Below.refl w.heap.size w).alloc (Nat.le_refl _) (.cells (kysC K I M) 34))
  obtain ⟨c0, c1, c2⟩ := kys_cells R0
  clear R0
  unfold kysC at *
  by_cases h1 : k = 16
  · by_cases h2 : i = 12
    · by_cases h3 : m = 16
      · rw [decide_eq_true (show k = 16 ∧ i = 12 ∧ m = 16 from ⟨h1, h2, h3⟩)]
        subst h1 h2 h3
        go_enter Tryd.func36, Tryd.ntmps36
        go_wp2_with fail
        go_ret
        exact ⟨rfl, HB.out⟩
      · rw [decide_eq_false (fun h => h3 h.2.2)]
        subst h1 h2
        have e3 : ((m : Int) == 16) = false := beq_eq_false_iff_ne.2 (by omega)
        go_enter Tryd.func36, Tryd.ntmps36
        go_wp2_with fail
        go_ret
        exact ⟨rfl, HB.out⟩
    · rw [decide_eq_false (fun h => h2 h.2.1)]
      subst h1
      have e2 : ((i : Int) == 12) = false := beq_eq_false_iff_ne.2 (by omega)
      go_enter Tryd.func36, Tryd.ntmps36
      go_wp2_with fail
      go_ret
      exact ⟨rfl, HB.out⟩
  · rw [decide_eq_false (fun h => h1 h.1)]
    have e1 : ((k : Int) == 16) = false := beq_eq_false_iff_ne.2 (by omega)
    go_enter Tryd.func36, Tryd.ntmps36
    go_wp2_with fail
    go_ret
    exact ⟨rfl, HB.out⟩
/-- A first byte, hidden by a mask's. -/
def veilF (x m : BitVec 8) : BitVec 8 := if x &&& 128#8 = 0#8 then x ^^^ (m &&& 31#8) else x ^^^ (m &&& 15#8)
theorem n8_zero_iff (x : BitVec 8) : n8 x = 0 ↔ x = 0#8 := by
  rw [n8_nat]
  constructor
  · intro h; apply BitVec.eq_of_toNat_eq; have : x.toNat = 0 := by omega
    rw [this]; rfl
  · rintro rfl; rfl
theorem veiled_any (x m : BitVec 8) (w : World) : Calls Tryd.prog 31 #[.int .u8 (n8 x), .int .u8 (n8 m)] w fun e w' => e = .returned (.int .u8 (n8 (veilF x m))) ∧ w = w' := by
  unfold veilF
  by_cases h : x &&& 128#8 = 0#8
  · rw [if_pos h]
    have h1 : n8 (x &&& 128#8) = 0 := (n8_zero_iff _).2 h
    have hz : n8 0#8 = 0 := (n8_zero_iff _).2 rfl
    go_enter Tryd.func31, Tryd.ntmps31
    go_wp2_with fail
    go_ret
    exact ⟨rfl, rfl⟩
  · rw [if_neg h]
    have h1 : ¬ n8 (x &&& 128#8) = 0 := fun h2 => h ((n8_zero_iff _).1 h2)
    go_enter Tryd.func31, Tryd.ntmps31
    go_wp2_with fail
    go_ret
    exact ⟨rfl, rfl⟩
def numG (g : Nat → BitVec 8) : Nat → Nat
  | 0 => 0
  | m + 1 => numG g m * 256 + (g m).toNat
theorem numG_lt (g : Nat → BitVec 8) : ∀ m, numG g m < 256 ^ m
  | 0 => by simp [numG]
  | m + 1 => by
    have h := numG_lt g m
    have h2 := (g m).isLt
    show numG g m * 256 + (g m).toNat < 256 ^ m * 256
    omega
theorem or_byte (x : Nat) (y : BitVec 8) (hx : x < 4294967296) : bits .or .i64 (wrap64 ((x : Int) * 256)) (wrap64 (n8 y)) = ((x * 256 + y.toNat : Nat) : Int) := by
  have hy := y.isLt
  have e1 : wrap64 ((x : Int) * 256) = ((x * 256 : Nat) : Int) := by unfold wrap64; omega
  have e2 : wrap64 (n8 y) = (y.toNat : Int) := by rw [n8_nat]; unfold wrap64; omega
  rw [e1, e2]
  show IntKind.wrap .i64 _ = _
  have e3 : (BitVec.ofInt (IntKind.bits .i64) ((x * 256 : Nat) : Int) ||| BitVec.ofInt (IntKind.bits .i64) (y.toNat : Int)).toNat = x * 256 + y.toNat := by
    show (BitVec.ofInt 64 ((x * 256 : Nat) : Int) ||| BitVec.ofInt 64 (y.toNat : Int)).toNat = _
    rw [BitVec.toNat_or, BitVec.toNat_ofInt, BitVec.toNat_ofInt]
    rw [show (((x * 256 : Nat) : Int) % ((2 ^ 64 : Nat) : Int)).toNat = x <<< 8 by rw [Nat.shiftLeft_eq]; omega, show ((y.toNat : Int) % ((2 ^ 64 : Nat) : Int)).toNat = y.toNat by omega]
    rw [← Nat.shiftLeft_add_eq_or_of_lt (by omega), Nat.shiftLeft_eq]
  rw [e3]
  simp only [IntKind.wrap, IntKind.bits, IntKind.signed]
  simp
  omega
theorem or_number (g : Nat → BitVec 8) (k : Nat) (hk : k ≤ 3) : bits .or .i64 (wrap64 (((numG g k : Nat) : Int) * 256)) (wrap64 (n8 (g k))) = ((numG g (k + 1) : Nat) : Int) := by
  have h := numG_lt g k
  have h2 : 256 ^ k ≤ 256 ^ 3 := Nat.pow_le_pow_right (by omega) hk
  exact or_byte (numG g k) (g k) (by omega)
set_option maxHeartbeats 4000000 in
theorem valueOf_any (a : Option Addr) (m c : Nat) (f : Nat → BitVec 8) (hm : m ≤ 4) (w : World) (h : BytesIn w a m f) :
    Calls Tryd.prog 39 #[.slice a m c] w fun e w' => e = .returned (.int .i64 ((numG f m : Nat) : Int)) ∧ w = w' := by
  have H := Lib.hid h
  clear h
  go_enter Tryd.func39, Tryd.ntmps39
  go_wp2_with fail
  go_loopw [3, 5, 8] (fun s3 s5 s8 wr => ∃ k : Nat, k ≤ m ∧ s8 = .int .i64 (k : Int) ∧ s3 = .int .i64 ((numG f k : Nat) : Int) ∧ w = wr) (fun _ _ s8 _ => m - (intOf s8).toNat)
  case atStart => exact ⟨0, by omega, rfl, rfl, rfl⟩
  case round =>
    obtain ⟨k, hk, rfl, rfl, rfl⟩ := hrel
    by_cases hlt : k < m
    · have hlI : (k : Int) < (m : Int) := by omega
      obtain ⟨_, h0 | ⟨b, o, rfl, hb, hc⟩⟩ := H.out
      · omega
      have k1 := hc k hlt
      have hor := or_number f k (by omega)
      have hw : wrap64 (((numG f k : Nat) : Int) * 256) = ((numG f k : Nat) : Int) * 256 := by
        have h := numG_lt f k
        have h2 : 256 ^ k ≤ 256 ^ 3 := Nat.pow_le_pow_right (by omega) (by omega)
        unfold wrap64; omega
      clear hc
      rw [hw] at hor
      generalize numG f k = A at *
      go_wp2_with fail
      go_roundw
      case rel => exact ⟨k + 1, by omega, by go_num, by first | rfl | exact congrArg (Value.int .i64) hor, trivial⟩
      case measure => (simp [intOf] <;> omega)
    · obtain rfl : k = m := by omega
      have hN : ¬ ((k : Int) < (k : Int)) := by omega
      go_wp2_with fail
      go_ret
      exact ⟨rfl, rfl⟩
/-- A row of one's own bytes, its end marked or not. -/
def RowZ (w : World) (g n : Nat) (f : Nat → BitVec 8) : Prop := ∃ (cur : Array Value) (fr : Nat × Nat), w.heap[g]? = some (.cells cur 5 fr) ∧ (fr.2 = 0 ∨ cur.size ≤ fr.1) ∧ n ≤ cur.size ∧ ∀ i, i < n → cur[i]? = some (.int .u8 (n8 (f i)))
theorem RowZ.lt {w : World} {g n : Nat} {f : Nat → BitVec 8} (h : RowZ w g n f) : g < w.heap.size := by
  obtain ⟨cur, fr, h1, _⟩ := h
  exact lt_of_heap h1
theorem RowZ.at {w : World} {g n : Nat} {f : Nat → BitVec 8} (h : RowZ w g n f) (i : Nat) (hi : i < n) : w.cell? ⟨g, i, none⟩ = some (.int .u8 (n8 (f i))) := by
  obtain ⟨cur, fr, h1, _, _, h4⟩ := h
  rw [cell_of_row _ _ _ _ _ _ h1]; exact h4 i hi
theorem RowZ.free {w : World} {g n : Nat} {f : Nat → BitVec 8} (h : RowZ w g n f) (i : Nat) (hi : i < n) : w.frozen? ⟨g, i, none⟩ = false := by
  obtain ⟨cur, fr, h1, h2, h3, _⟩ := h
  exact frozenF h1 h2 (by omega)
theorem RowZ.set {w : World} {g n : Nat} {f : Nat → BitVec 8} (h : RowZ w g n f) (j : Nat) (x : BitVec 8) : RowZ (w.setCell ⟨g, j, none⟩ (.int .u8 (n8 x))) g n (updb f j x) := by
  obtain ⟨cur, fr, h1, h2, h3, h4⟩ := h
  obtain ⟨cs', e1, e2, e3⟩ := setCells_rowF g 5 fr [.int .u8 (n8 x)] j w cur h1
  refine ⟨cs', fr, e1, by rw [e2]; exact h2, by rw [e2]; exact h3, fun i hi => ?_⟩
  rw [e3]
  unfold updb
  by_cases hij : i = j
  · subst hij
    rw [if_pos ⟨by omega, by simp, by omega⟩, if_pos rfl]; simp
  · rw [if_neg (by simp; omega), if_neg hij]; exact h4 i hi
theorem RowZ.congr {w : World} {g n : Nat} {f f' : Nat → BitVec 8} (h : RowZ w g n f) (hf : ∀ i, i < n → f i = f' i) : RowZ w g n f' := by
  obtain ⟨cur, fr, h1, h2, h3, h4⟩ := h
  exact ⟨cur, fr, h1, h2, h3, fun i hi => by rw [h4 i hi, hf i hi]⟩
theorem RowZ.later {w w' : World} {g n : Nat} {f : Nat → BitVec 8} (h : RowZ w g n f) (hb : Below w.heap.size w w') : RowZ w' g n f := by
  obtain ⟨cur, fr, h1, r⟩ := h
  exact ⟨cur, fr, (hb.block g (lt_of_heap h1)).trans h1, r⟩
theorem RowZ.bytesIn {w : World} {g n : Nat} {f : Nat → BitVec 8} (h : RowZ w g n f) (hn : n ≤ maxLen) : BytesIn w (some ⟨g, 0, none⟩) n f := ⟨hn, .inr ⟨g, 0, rfl, h.lt, fun i hi => by rw [Nat.zero_add]; exact h.at i hi⟩⟩
theorem OwnZ.rowZ {B n : Nat} {v : Value} {f : Nat → BitVec 8} {w : World} (h : OwnZ B v n f w) (hn : 0 < n) : ∃ g c, v = .slice (some ⟨g, 0, none⟩) n c ∧ B ≤ g ∧ n ≤ c ∧ c ≤ maxLen ∧ RowZ w g n f := by
  rcases h.row with ⟨_, h0⟩ | ⟨b, cap, cur, fr, rfl, h2, h3, h4, h5, h6, h7, h8⟩
  · omega
  · exact ⟨b, cap, rfl, h2, h5, h6, cur, fr, h3, h4, by omega, h8⟩
theorem numB_at' (N : Int) (e : Nat) : N / 2 ^ e % 256 = n8 (BitVec.ofInt 8 (N / 2 ^ e)) := by rw [n8_nat, BitVec.toNat_ofInt]; omega
theorem xor_b : ∀ a b : BitVec 8, bits .xor .u8 (n8 a) (n8 b) = n8 (a ^^^ b) := fun a b => by
  show IntKind.wrap .u8 _ = _
  rw [show BitVec.ofInt (IntKind.bits .u8) (n8 a) = a from ofInt_n8 a, show BitVec.ofInt (IntKind.bits .u8) (n8 b) = b from ofInt_n8 b, wrap_n8]
  refine congrArg n8 ?_
  have := ofInt_n8 (a ^^^ b)
  unfold n8 at this
  exact this
/-- The nonce of a number. -/
def nonTo (iv : Nat → BitVec 8) (N : Int) (k j : Nat) : BitVec 8 := if 12 - k ≤ j ∧ j < 12 then iv j ^^^ BitVec.ofInt 8 (N / 2 ^ (8 * (11 - j))) else iv j
set_option maxHeartbeats 8000000 in
theorem nonce_any (iv : Nat → BitVec 8) (N : Int) (h0 : 0 ≤ N) (h1 : N ≤ 4611686018427387903) (w : World) :
    Calls Tryd.prog 28 #[.string (strOf iv 12), .int .i64 N] w fun e w' => ∃ g c, e = .returned (.slice (some ⟨g, 0, none⟩) 12 c) ∧ w.heap.size ≤ g ∧ 12 ≤ c ∧ c ≤ maxLen ∧ RowZ w' g 12 (nonTo iv N 8) ∧ Below w.heap.size w w' := by
  obtain ⟨v1, w1, hcv, o1, b1⟩ := conv_ownZ iv 12 (by omega) w w.heap.size (Nat.le_refl _)
  obtain ⟨g, c, rfl, hg, hc, hcm, rz⟩ := o1.rowZ (by omega)
  have RZ := Lib.hid rz
  have B1 := Lib.hid b1
  clear o1 rz b1
  generalize strOf iv 12 = SI at *
  go_enter Tryd.func28, Tryd.ntmps28
  go_wp2_with fail
  clear hcv
  go_loopw [6, 9] (fun _ s9 wr => ∃ k : Nat, k ≤ 8 ∧ s9 = .int .i64 (k : Int) ∧ RowZ wr g 12 (nonTo iv N k) ∧ Below w.heap.size w wr) (fun _ s9 _ => 8 - (intOf s9).toNat)
  case atStart => exact ⟨0, by omega, rfl, RZ.out.congr (fun i hi => by unfold nonTo; rw [if_neg (by omega)]), B1.out⟩
  case round =>
    clear RZ B1
    obtain ⟨k, hk, rfl, rz, bel⟩ := hrel
    have BEL := Lib.hid bel
    have RZ := Lib.hid rz
    clear bel rz
    by_cases hlt : k < 8
    · have hlI : (k : Int) < 8 := by omega
      have c1 := RZ.out.at (11 - k) (by omega)
      have f1 := RZ.out.free (11 - k) (by omega)
      have hi1 : (12 : Int) - 1 - (k : Int) = ((11 - k : Nat) : Int) := by omega
      have hx : nonTo iv N k (11 - k) = iv (11 - k) := by unfold nonTo; rw [if_neg (by omega)]
      rw [hx] at c1
      generalize hj : 11 - k = j at *
      go_upto_region 5 with (fail)
      go_region
      go_wp2_with fail
      have ex : bits .xor .u8 (n8 (iv j)) (N / 2 ^ (8 * k) % 256) = n8 (iv j ^^^ BitVec.ofInt 8 (N / 2 ^ (8 * k))) := by
        rw [numB_at']; exact xor_b _ _
      rw [ex]
      refine ⟨⟨k + 1, by omega, by go_num, ?_, (BEL.out.setCell (by omega) _).drew⟩, (by simp [intOf] <;> omega)⟩
      obtain ⟨cur, fr, r⟩ := (RZ.out.set j (iv j ^^^ BitVec.ofInt 8 (N / 2 ^ (8 * k)))).congr (f' := nonTo iv N (k + 1)) (fun i hi => by
        unfold updb nonTo
        by_cases hij : i = j
        · subst hij
          rw [if_pos rfl, if_pos (by omega), show 11 - i = k by omega]
        · rw [if_neg hij]
          by_cases h2 : 12 - k ≤ i ∧ i < 12
          · rw [if_pos h2, if_pos (by omega)]
          · rw [if_neg h2, if_neg (by omega)])
      exact ⟨cur, fr, r⟩
    · obtain rfl : k = 8 := by omega
      have hN : ¬ (((8 : Nat) : Int) < 8) := by omega
      go_wp2_with fail
      go_ret
      exact ⟨g, c, rfl, hg, hc, hcm, RZ.out, BEL.out⟩
end Go.Proofs.YtjbpjoondmcnlabDoor
namespace Go.Proofs.YtjbpjoondmcnlabDoor
open Go Go.RowKit Go.BigFrame
set_option linter.unusedSimpArgs false
set_option linter.unusedVariables false
set_option maxRecDepth 100000
theorem right_any (K I M : ByteArray) (k i m : Nat) (hK : K.size = k) (hI : I.size = i) (hM : M.size = m) (w : World) :
    Calls Tryd.prog 21 #[.agg (kysC K I M)] w fun e w' => e = .returned (.bool (decide (k = 16 ∧ i = 12 ∧ m = 16))) ∧ Below w.heap.size w w' := by
  have R0 : (w.alloc (.cells (kysC K I M) 23)).heap[w.heap.size]? = some (.cells (kysC K I M) 23 (0, 0)) := heap_alloc_last _ _
  have HB := Lib.hid ((Below.refl w.heap.size w).alloc (Nat.le_refl _) (.cells (kysC K I M) 23))
  obtain ⟨c0, c1, c2⟩ := kys_cells R0
  clear R0
  unfold kysC at *
  by_cases h1 : k = 16
  · by_cases h2 : i = 12
    · by_cases h3 : m = 16
      · rw [decide_eq_true (show k = 16 ∧ i = 12 ∧ m = 16 from ⟨h1, h2, h3⟩)]
        subst h1 h2 h3
        go_enter Tryd.func21, Tryd.ntmps21
        go_wp2_with fail
        go_ret
        exact ⟨rfl, HB.out⟩
      · rw [decide_eq_false (fun h => h3 h.2.2)]
        subst h1 h2
        have e3 : ((m : Int) == 16) = false := beq_eq_false_iff_ne.2 (by omega)
        go_enter Tryd.func21, Tryd.ntmps21
        go_wp2_with fail
        go_ret
        exact ⟨rfl, HB.out⟩
    · rw [decide_eq_false (fun h => h2 h.2.1)]
      subst h1
      have e2 : ((i : Int) == 12) = false := beq_eq_false_iff_ne.2 (by omega)
      go_enter Tryd.func21, Tryd.ntmps21
      go_wp2_with fail
      go_ret
      exact ⟨rfl, HB.out⟩
  · rw [decide_eq_false (fun h => h1 h.1)]
    have e1 : ((k : Int) == 16) = false := beq_eq_false_iff_ne.2 (by omega)
    go_enter Tryd.func21, Tryd.ntmps21
    go_wp2_with fail
    go_ret
    exact ⟨rfl, HB.out⟩
set_option maxHeartbeats 8000000 in
theorem rnonce_any (iv : Nat → BitVec 8) (N : Int) (h0 : 0 ≤ N) (h1 : N ≤ 4611686018427387903) (w : World) :
    Calls Tryd.prog 23 #[.string (strOf iv 12), .int .i64 N] w fun e w' => e = .returned (.string (strOf (nonTo iv N 8) 12)) ∧ Below w.heap.size w w' := by
  obtain ⟨v1, w1, hcv, o1, b1⟩ := conv_ownZ iv 12 (by omega) w w.heap.size (Nat.le_refl _)
  obtain ⟨g, c, rfl, hg, hc, hcm, rz⟩ := o1.rowZ (by omega)
  have RZ := Lib.hid rz
  have B1 := Lib.hid b1
  clear o1 rz b1
  generalize strOf iv 12 = SI at *
  go_enter Tryd.func23, Tryd.ntmps23
  go_wp2_with fail
  clear hcv
  go_loopw [6] (fun s6 wr => ∃ k : Nat, k ≤ 8 ∧ s6 = .int .i64 (k : Int) ∧ RowZ wr g 12 (nonTo iv N k) ∧ Below w.heap.size w wr) (fun s6 _ => 8 - (intOf s6).toNat)
  case atStart => exact ⟨0, by omega, rfl, RZ.out.congr (fun i hi => by unfold nonTo; rw [if_neg (by omega)]), B1.out⟩
  case round =>
    clear RZ B1
    obtain ⟨k, hk, rfl, rz, bel⟩ := hrel
    have BEL := Lib.hid bel
    have RZ := Lib.hid rz
    clear bel rz
    by_cases hlt : k < 8
    · have hlI : (k : Int) < 8 := by omega
      have c1 := RZ.out.at (11 - k) (by omega)
      have f1 := RZ.out.free (11 - k) (by omega)
      have hi1 : (11 : Int) - (k : Int) = ((11 - k : Nat) : Int) := by omega
      have hx : nonTo iv N k (11 - k) = iv (11 - k) := by unfold nonTo; rw [if_neg (by omega)]
      rw [hx] at c1
      generalize hj : 11 - k = j at *
      go_upto_region 5 with (fail)
      go_region
      go_wp2_with fail
      have ex : bits .xor .u8 (n8 (iv j)) (N / 2 ^ (8 * k) % 256) = n8 (iv j ^^^ BitVec.ofInt 8 (N / 2 ^ (8 * k))) := by
        rw [numB_at']; exact xor_b _ _
      rw [ex]
      refine ⟨⟨k + 1, by omega, by go_num, ?_, (BEL.out.setCell (by omega) _).drew⟩, (by simp [intOf] <;> omega)⟩
      obtain ⟨cur, fr, r⟩ := (RZ.out.set j (iv j ^^^ BitVec.ofInt 8 (N / 2 ^ (8 * k)))).congr (f' := nonTo iv N (k + 1)) (fun i hi => by
        unfold updb nonTo
        by_cases hij : i = j
        · subst hij
          rw [if_pos rfl, if_pos (by omega), show 11 - i = k by omega]
        · rw [if_neg hij]
          by_cases h2 : 12 - k ≤ i ∧ i < 12
          · rw [if_pos h2, if_pos (by omega)]
          · rw [if_neg h2, if_neg (by omega)])
      exact ⟨cur, fr, r⟩
    · obtain rfl : k = 8 := by omega
      have hN : ¬ (((8 : Nat) : Int) < 8) := by omega
      have cv := conv_in _ _ 12 c wr (RZ.out.bytesIn (by unfold maxLen; omega))
      go_wp2_with fail
      go_ret
      exact ⟨rfl, BEL.out⟩
/-- The first m bytes from o on, put together with another row's. -/
def togF (f m : Nat → BitVec 8) (o n i : Nat) : BitVec 8 := if o ≤ i ∧ i < o + n then f i ^^^ m (i - o) else f i
set_option maxHeartbeats 8000000 in
theorem gtogether_any (g o n c len : Nat) (f : Nat → BitVec 8) (a : Option Addr) (m c2 : Nat) (p : Nat → BitVec 8) (w : World) (h : RowZ w g len f) (ho : o + n ≤ len) (hp : BytesIn w a m p) (hnm : n ≤ m) (hne : ∀ x, a = some x → x.block ≠ g) :
    Calls Tryd.prog 32 #[.slice (some ⟨g, o, none⟩) n c, .slice a m c2] w fun e w' => e = .returned (.tuple #[]) ∧ RowZ w' g len (togF f p o n) ∧ (∀ B, B ≤ g → Below B w w') ∧ ∀ k, k ≠ g → w'.heap[k]? = w.heap[k]? := by
  have H := Lib.hid h
  have HP := Lib.hid hp
  have HN := Lib.hid hne
  clear h hp hne
  go_enter Tryd.func32, Tryd.ntmps32
  go_wp2_with fail
  go_loopw [4, 7] (fun _ s7 wr => ∃ k : Nat, k ≤ n ∧ s7 = .int .i64 (k : Int) ∧ RowZ wr g len (togF f p o k) ∧ (∀ B, B ≤ g → Below B w wr) ∧ ∀ k, k ≠ g → wr.heap[k]? = w.heap[k]?) (fun _ s7 _ => n - (intOf s7).toNat)
  case atStart => exact ⟨0, by omega, rfl, H.out.congr (fun i hi => by unfold togF; rw [if_neg (by omega)]), fun B _ => Below.refl _ _, fun _ _ => rfl⟩
  case round =>
    obtain ⟨k, hk, rfl, rz, bel, oth⟩ := hrel
    have BEL := Lib.hid bel
    have RZ := Lib.hid rz
    have OT := Lib.hid oth
    clear bel rz oth
    by_cases hlt : k < n
    · have hlI : (k : Int) < (n : Int) := by omega
      have hmI : (k : Int) < (m : Int) := by omega
      obtain ⟨_, h0 | ⟨b, ob, rfl, hb, hc⟩⟩ := HP.out
      · omega
      have hbg : b ≠ g := HN.out _ rfl
      have k1 : wr.cell? ⟨b, ob + k, none⟩ = some (.int .u8 (n8 (p k))) := by
        have h2 := hc k (by omega)
        unfold World.cell? at h2 ⊢
        simp only [OT.out b hbg]
        exact h2
      have c1 := RZ.out.at (o + k) (by omega)
      have f1 := RZ.out.free (o + k) (by omega)
      have hx : togF f p o k (o + k) = f (o + k) := by unfold togF; rw [if_neg (by omega)]
      rw [hx] at c1
      clear hc
      go_upto_region 3 with (fail)
      go_region
      go_wp2_with fail
      have hml := HP.out.1
      have hw : wrap64 ((k : Int) + 1) = ((k + 1 : Nat) : Int) := by unfold maxLen at hml; unfold wrap64; omega
      rw [hw]
      refine ⟨⟨k + 1, by omega, rfl, ?_, fun B hB => ((BEL.out B hB).setCell hB _).drew, fun j hj => (heap_setCell_other _ _ _ _ hj).trans (OT.out j hj)⟩, (by simp [intOf] <;> omega)⟩
      obtain ⟨cur, fr, r⟩ := (RZ.out.set (o + k) (f (o + k) ^^^ p k)).congr (f' := togF f p o (k + 1)) (fun i hi => by
        unfold updb togF
        by_cases hij : i = o + k
        · subst hij
          rw [if_pos rfl, if_pos (by omega), show o + k - o = k by omega]
        · rw [if_neg hij]
          by_cases h2 : o ≤ i ∧ i < o + k
          · rw [if_pos h2, if_pos (by omega)]
          · rw [if_neg h2, if_neg (by omega)])
      exact ⟨cur, fr, r⟩
    · obtain rfl : k = n := by omega
      have hN : ¬ ((k : Int) < (k : Int)) := by omega
      go_wp2_with fail
      go_end0
      exact ⟨rfl, RZ.out, BEL.out, OT.out⟩
end Go.Proofs.YtjbpjoondmcnlabDoor
namespace Go.Proofs.YtjbpjoondmcnlabDoor
open Go Go.RowKit Go.BigFrame
set_option linter.unusedSimpArgs false
set_option linter.unusedVariables false
set_option maxRecDepth 100000
theorem run_mid_at (w : World) (g o lo hi n c : Nat) (L H : Int) (hL : L = (lo : Int)) (hH : H = (hi : Int)) (h1 : lo < hi) (h2 : hi ≤ n) (h3 : n ≤ c) :
    (Instr.sliceAt 31 (.slice (some ⟨g, o, none⟩) n c) (some (.int .i64 L)) (some (.int .i64 H)) none).run Tryd.prog w = .ok (.slice (some ⟨g, o + lo, none⟩) (hi - lo) (c - lo)) w := by
  subst hL hH
  have hu : Tryd.prog.underlying 31 = some (.slice (Tryd.prog.elem 31)) := by kernel_rfl
  have e0 : (0 : Int) ≤ (lo : Int) := by omega
  have e1 : (lo : Int) ≤ (hi : Int) := by omega
  have e2 : (hi : Int) ≤ (c : Int) := by omega
  have e3 : ¬ c = lo := by omega
  have e4 : ((⟨g, o, none⟩ : Addr).add lo) = ⟨g, o + lo, none⟩ := by unfold Addr.add; split <;> simp_all
  rw [run_sliceAt_slice (t := 31) (h := hu), run_slice_any (t := 31) (ht := hu)]
  simp [Instr.sliceBounds, go_sem, e0, e1, e2, e3, e4]
  try omega
/-- The mask of the bytes from a number on. -/
def mskF (mk f : Nat → BitVec 8) : Nat → BitVec 8 := W4.byte (turned sbox (sched mk) (W4.of (fun i => f (4 + i))))
theorem row16_in {w : World} {r : Nat} {G : Nat → BitVec 8} {T : TypeId} {fr : Nat × Nat} (h : w.heap[r]? = some (.cells (b16 G) T fr)) : BytesIn w (some ⟨r, 0, none⟩) 16 G :=
  ⟨by unfold maxLen; omega, .inr ⟨r, 0, rfl, lt_of_heap h, fun i hi => by rw [Nat.zero_add, cell_of_row _ _ _ _ _ _ h]; exact b16_get _ _ hi⟩⟩
set_option maxHeartbeats 8000000 in
theorem mask_any (mk f : Nat → BitVec 8) (K I : ByteArray) (a : Option Addr) (m c : Nat) (hm : 20 ≤ m) (hc : m ≤ c) (w : World) (h : BytesIn w a m f) :
    Calls Tryd.prog 30 #[.agg (kysC K I (strOf mk 16)), .slice a m c] w fun e w' => ∃ r, e = .returned (.tuple #[.slice (some ⟨r, 0, none⟩) 16 16, .int .i64 0]) ∧ w.heap.size ≤ r ∧ BytesIn w' (some ⟨r, 0, none⟩) 16 (mskF mk f) ∧ Below w.heap.size w w' := by
  have R0 : (w.alloc (.cells (kysC K I (strOf mk 16)) 34)).heap[w.heap.size]? = some (.cells (kysC K I (strOf mk 16)) 34 (0, 0)) := heap_alloc_last _ _
  have hb1 : Below w.heap.size w (w.alloc (.cells (kysC K I (strOf mk 16)) 34)) := (Below.refl w.heap.size w).alloc (Nat.le_refl _) _
  obtain ⟨c0, c1, c2⟩ := kys_cells R0
  obtain ⟨v1, w1, hcv, o1, b1⟩ := conv_ownZ mk 16 (by omega) (w.alloc (.cells (kysC K I (strOf mk 16)) 34)) (w.alloc (.cells (kysC K I (strOf mk 16)) 34)).heap.size (Nat.le_refl _)
  obtain ⟨g, cg, rfl, hg, hcg, hcm, rz⟩ := o1.rowZ (by omega)
  have B1 := Lib.hid (hb1.trans (b1.mono hb1.size))
  have N1 := Lib.hid (new_ok mk g 0 cg w1 (fun i hi => by rw [Nat.zero_add]; exact rz.at i hi) rz.lt)
  obtain ⟨_, h0 | ⟨b, ob, rfl, hb, hcell⟩⟩ := id h
  · omega
  have HC := Lib.hid hcell
  have s1 := fun w' => run_mid_at w' b ob 4 20 m c 4 20 rfl rfl (by omega) hm hc
  rw [show 20 - 4 = 16 by omega] at s1
  clear R0 hb1 o1 b1 rz h hcell
  unfold kysC at *
  generalize strOf mk 16 = SM at *
  go_enter Tryd.func30, Tryd.ntmps30
  go_upto_region 2 with (go_at_call 47; refine N1.out.mono ?_; rintro e w2 ⟨rfl, q, hk⟩; have C2 := Lib.hid hk.cipher; have B2 := Lib.hid (B1.out.trans (hk.below.mono B1.out.size)); clear hk)
  clear hcv N1 c0 c1 c2
  have BK := block_ok (sched mk) (fun i => f (4 + i)) w1.heap.size b (ob + 4) (c - 4) w2 C2.out (fun i hi => by
    have e : ob + 4 + i = ob + (4 + i) := by omega
    rw [e, B2.out.cell (p := ⟨b, ob + (4 + i), none⟩) hb]; exact HC.out (4 + i) (by omega)) (Nat.lt_of_lt_of_le hb B2.out.size)
  have HBK := Lib.hid BK
  clear BK
  go_wp2_with (go_at_call 48; refine HBK.out.mono ?_; rintro e w3 ⟨r, rfl, hf⟩; have F3 := Lib.hid hf; clear hf)
  go_ret2
  exact ⟨r, rfl, Nat.le_trans B2.out.size F3.out.new, row16_in F3.out.row, B2.out.trans (F3.out.below.mono B2.out.size)⟩
end Go.Proofs.YtjbpjoondmcnlabDoor
namespace Go.Proofs.YtjbpjoondmcnlabDoor
open Go Go.RowKit Go.BigFrame
set_option linter.unusedSimpArgs false
set_option linter.unusedVariables false
set_option maxRecDepth 100000
theorem and3 (x : BitVec 8) : n8 (x &&& 3#8) = ((x.toNat % 4 : Nat) : Int) := by
  rw [n8_nat, BitVec.toNat_and]
  exact congrArg _ (Nat.and_two_pow_sub_one_eq_mod x.toNat 2)
theorem low_of (N : Int) (h0 : 0 ≤ N) (h1 : N ≤ 4611686018427387903) (j : Nat) (hj : j ≤ 32) : bits .and .i64 N ((2 : Int) ^ j - 1) = N % 2 ^ j := by
  obtain ⟨n, rfl⟩ := Int.eq_ofNat_of_zero_le h0
  have hp : (2 : Nat) ^ j ≤ 2 ^ 32 := Nat.pow_le_pow_right (by omega) hj
  have hp0 : 0 < (2 : Nat) ^ j := Nat.pow_pos (by omega)
  have e1 : ((2 : Int) ^ j - 1) = ((2 ^ j - 1 : Nat) : Int) := by
    rw [Int.natCast_sub hp0]; simp
  rw [e1]
  show IntKind.wrap .i64 _ = _
  have e3 : (BitVec.ofInt (IntKind.bits .i64) ((n : Nat) : Int) &&& BitVec.ofInt (IntKind.bits .i64) ((2 ^ j - 1 : Nat) : Int)).toNat = n % 2 ^ j := by
    show (BitVec.ofInt 64 ((n : Nat) : Int) &&& BitVec.ofInt 64 ((2 ^ j - 1 : Nat) : Int)).toNat = _
    rw [BitVec.toNat_and, BitVec.toNat_ofInt, BitVec.toNat_ofInt]
    rw [show (((n : Nat) : Int) % ((2 ^ 64 : Nat) : Int)).toNat = n by omega, show (((2 ^ j - 1 : Nat) : Int) % ((2 ^ 64 : Nat) : Int)).toNat = 2 ^ j - 1 by omega]
    exact Nat.and_two_pow_sub_one_eq_mod n j
  rw [e3]
  have hlt : n % 2 ^ j < 2 ^ 32 := Nat.lt_of_lt_of_le (Nat.mod_lt _ hp0) hp
  rw [show ((n : Nat) : Int) % 2 ^ j = ((n % 2 ^ j : Nat) : Int) by simp]
  generalize n % 2 ^ j = x at *
  simp only [IntKind.wrap, IntKind.bits, IntKind.signed]
  simp
  omega
theorem run_from_at (w : World) (g o lo n c : Nat) (L : Int) (hL : L = (lo : Int)) (h2 : lo < n) (h3 : n ≤ c) :
    (Instr.sliceAt 31 (.slice (some ⟨g, o, none⟩) n c) (some (.int .i64 L)) none none).run Tryd.prog w = .ok (.slice (some ⟨g, o + lo, none⟩) (n - lo) (c - lo)) w := by
  subst hL
  have hu : Tryd.prog.underlying 31 = some (.slice (Tryd.prog.elem 31)) := by kernel_rfl
  have e0 : (0 : Int) ≤ (lo : Int) := by omega
  have e1 : (lo : Int) ≤ (n : Int) := by omega
  have e2 : (n : Int) ≤ (c : Int) := by omega
  have e3 : ¬ c = lo := by omega
  have e4 : ((⟨g, o, none⟩ : Addr).add lo) = ⟨g, o + lo, none⟩ := by unfold Addr.add; split <;> simp_all
  rw [run_sliceAt_slice (t := 31) (h := hu), run_slice_any (t := 31) (ht := hu)]
  simp [Instr.sliceBounds, go_sem, e0, e1, e2, e3, e4]
  try omega
theorem load_kys {w : World} {b : Nat} {T : TypeId} {K I M : ByteArray} (h : w.heap[b]? = some (.cells (kysC K I M) T (0, 0))) : (Instr.loadAt 34 (.pointer (some ⟨b, 0, none⟩))).run Tryd.prog w = .ok (.agg (kysC K I M)) w := by
  have h1 := run_loadAt_mid (P := Tryd.prog) w b 0 34 (kysC K I M).toList _ (fun j u hj => by
    rw [Nat.zero_add, cell_of_row _ _ _ _ _ _ h]
    simpa using hj) Tryd.underlying34 rfl (by kernel_rfl)
  simpa using h1
theorem load_kysR {w : World} {b : Nat} {T : TypeId} {K I M : ByteArray} (h : w.heap[b]? = some (.cells (kysC K I M) T (0, 0))) : (Instr.loadAt 23 (.pointer (some ⟨b, 0, none⟩))).run Tryd.prog w = .ok (.agg (kysC K I M)) w := by
  have h1 := run_loadAt_mid (P := Tryd.prog) w b 0 23 (kysC K I M).toList _ (fun j u hj => by
    rw [Nat.zero_add, cell_of_row _ _ _ _ _ _ h]
    simpa using hj) Tryd.underlying23 rfl (by kernel_rfl)
  simpa using h1
/-- What speaks against sealing. -/
def badArg (k i mm m : Nat) (S N : Int) : Prop := S < 1 ∨ 4 < S ∨ ¬ (0 ≤ N ∧ N ≤ 4611686018427387903) ∨ ¬ (k = 16 ∧ i = 12 ∧ mm = 16) ∨ (m : Int) < S + 1
def formOk (f : Nat → BitVec 8) (m s : Nat) (N : Int) : Prop := (f 0).toNat % 4 + 1 = s ∧ ((numG (fun i => f (m - s + i)) s : Nat) : Int) = N % 2 ^ (8 * s)
set_option maxHeartbeats 4000000 in
theorem sealable_arg (K I M : ByteArray) (k i mm : Nat) (hK : K.size = k) (hI : I.size = i) (hM : M.size = mm) (S N : Int) (hS0 : 0 - 9223372036854775808 ≤ S) (hS1 : S ≤ 9223372036854775807) (a a2 : Option Addr) (m c n c2 : Nat) (hm : m ≤ 4000) (w : World) (hbad : badArg k i mm m S N) :
    Calls Tryd.prog 25 #[.agg (kysC K I M), .slice a m c, .int .i64 S, .int .i64 N, .slice a2 n c2] w fun e w' => e = .returned (.int .i64 1) ∧ Below w.heap.size w w' := by
  have R0 : (w.alloc (.cells (kysC K I M) 34)).heap[w.heap.size]? = some (.cells (kysC K I M) 34 (0, 0)) := heap_alloc_last _ _
  have hb1 : Below w.heap.size w (w.alloc (.cells (kysC K I M) 34)) := (Below.refl w.heap.size w).alloc (Nat.le_refl _) _
  have HB := Lib.hid hb1
  have NU := Lib.hid (numbers_any N (w.alloc (.cells (kysC K I M) 34)))
  have WH := Lib.hid (whole_any K I M k i mm hK hI hM (w.alloc (.cells (kysC K I M) 34)))
  obtain ⟨c0, c1, c2⟩ := kys_cells R0
  have BAD := Lib.hid hbad
  clear hbad hb1 R0 hK hI hM
  unfold kysC at *
  by_cases h1 : S < 1
  · go_enter Tryd.func25, Tryd.ntmps25
    go_wp2_with fail
    go_ret
    exact ⟨rfl, HB.out⟩
  by_cases h2 : S > 4
  · go_enter Tryd.func25, Tryd.ntmps25
    go_wp2_with fail
    go_ret
    exact ⟨rfl, HB.out⟩
  by_cases h3 : 0 ≤ N ∧ N ≤ 4611686018427387903
  · have NU2 := Lib.hid (by have := NU.out; rw [decide_eq_true h3] at this; exact this)
    clear NU
    by_cases h4 : k = 16 ∧ i = 12 ∧ mm = 16
    · have WH2 := Lib.hid (by have := WH.out; rw [decide_eq_true h4] at this; exact this)
      have h5 : (m : Int) < S + 1 := by
        rcases BAD.out with h | h | h | h | h
        · omega
        · omega
        · exact absurd h3 h
        · exact absurd h4 h
        · exact h
      clear BAD WH h3 h4
      go_enter Tryd.func25, Tryd.ntmps25
      go_wp2_with (first
        | (go_at_call 35; refine NU2.out.mono ?_; rintro e w1 ⟨rfl, rfl⟩)
        | (go_at_call 36; refine WH2.out.mono ?_; rintro e w1 ⟨rfl, hb⟩; have B1 := Lib.hid (HB.out.trans (hb.mono HB.out.size)); clear hb))
      go_ret
      exact ⟨rfl, B1.out⟩
    · have WH2 := Lib.hid (by have := WH.out; rw [decide_eq_false h4] at this; exact this)
      clear BAD WH h3 h4
      go_enter Tryd.func25, Tryd.ntmps25
      go_wp2_with (first
        | (go_at_call 35; refine NU2.out.mono ?_; rintro e w1 ⟨rfl, rfl⟩)
        | (go_at_call 36; refine WH2.out.mono ?_; rintro e w1 ⟨rfl, hb⟩; have B1 := Lib.hid (HB.out.trans (hb.mono HB.out.size)); clear hb))
      go_ret
      exact ⟨rfl, B1.out⟩
  · have NU2 := Lib.hid (by have := NU.out; rw [decide_eq_false h3] at this; exact this)
    clear NU BAD WH h3
    go_enter Tryd.func25, Tryd.ntmps25
    go_wp2_with (go_at_call 35; refine NU2.out.mono ?_; rintro e w1 ⟨rfl, rfl⟩)
    go_ret
    exact ⟨rfl, HB.out⟩
set_option maxHeartbeats 4000000 in
theorem sealable_1 (K I M : ByteArray) (hK : K.size = 16) (hI : I.size = 12) (hM : M.size = 16) (N : Int) (h0 : 0 ≤ N) (h1 : N ≤ 4611686018427387903) (a a2 : Option Addr) (m c n c2 : Nat) (f : Nat → BitVec 8) (hm : m ≤ 4000) (hc : m ≤ c) (w : World) (hsm : 1 + 1 ≤ m) (h : BytesIn w a m f) (r : Int)
    (hr : (¬ formOk f m 1 N ∧ r = 2) ∨ (formOk f m 1 N ∧ n + 1 < 4 ∧ r = 3) ∨ (formOk f m 1 N ∧ ¬ n + 1 < 4 ∧ 65000 < n ∧ r = 5) ∨ (formOk f m 1 N ∧ ¬ n + 1 < 4 ∧ ¬ 65000 < n ∧ r = 0)) :
    Calls Tryd.prog 25 #[.agg (kysC K I M), .slice a m c, .int .i64 1, .int .i64 N, .slice a2 n c2] w fun e w' => e = .returned (.int .i64 r) ∧ Below w.heap.size w w' := by
  have R0 : (w.alloc (.cells (kysC K I M) 34)).heap[w.heap.size]? = some (.cells (kysC K I M) 34 (0, 0)) := heap_alloc_last _ _
  have hb1 : Below w.heap.size w (w.alloc (.cells (kysC K I M) 34)) := (Below.refl w.heap.size w).alloc (Nat.le_refl _) _
  have HB := Lib.hid hb1
  have NU := Lib.hid (by have := numbers_any N (w.alloc (.cells (kysC K I M) 34)); rw [decide_eq_true (show 0 ≤ N ∧ N ≤ 4611686018427387903 from ⟨h0, h1⟩)] at this; exact this)
  have WH := Lib.hid (by have := whole_any K I M 16 12 16 hK hI hM (w.alloc (.cells (kysC K I M) 34)); rw [decide_eq_true (show 16 = 16 ∧ 12 = 12 ∧ 16 = 16 from ⟨rfl, rfl, rfl⟩)] at this; exact this)
  obtain ⟨c0, c1, c2⟩ := kys_cells R0
  obtain ⟨_, h0' | ⟨b, o, rfl, hb, hcell⟩⟩ := id h
  · omega
  have HBL := Lib.hid hb
  have VO := Lib.hid (fun (w' : World) (hbl : Below w.heap.size w w') => valueOf_any (some ⟨b, o + (m - 1), none⟩) 1 (c - (m - 1)) (fun i => f (m - 1 + i)) (by omega) w' (by
    refine ⟨by unfold maxLen; omega, .inr ⟨b, o + (m - 1), rfl, Nat.lt_of_lt_of_le hb hbl.size, fun i hi => ?_⟩⟩
    rw [hbl.cell (p := ⟨b, o + (m - 1) + i, none⟩) hb, show o + (m - 1) + i = o + (m - 1 + i) by omega]
    exact hcell (m - 1 + i) (by omega)))
  have HR := Lib.hid hr
  have hlow : bits .and .i64 N 255 = N % 256 := by
    have h := low_of N h0 h1 8 (by omega)
    rw [show (2 : Int) ^ 8 - 1 = 255 from by decide, show (2 : Int) ^ 8 = 256 from by decide] at h
    exact h
  have hf0 := and3 (f 0)
  have hcz := hcell 0 (by omega)
  rw [Nat.add_zero] at hcz
  have HZ := Lib.hid hcz
  clear hcz
  have hmI : ¬ (m : Int) < 2 := by omega
  have s1 := fun w' => run_from_at w' b o (m - 1) m c ((m : Int) - 1) (by omega) (by omega) hc
  rw [show m - (m - 1) = 1 by omega] at s1
  unfold formOk at HR
  rw [show (2 : Int) ^ (8 * 1) = 256 from by decide] at HR
  have hml : (((f 0).toNat % 4 : Nat) : Int) ≤ 3 := by omega
  generalize hq : (f 0).toNat % 4 = q at *
  clear hr h hcell R0 hb1 hK hI hM
  unfold kysC at *
  generalize numG (fun i => f (m - 1 + i)) 1 = G at *
  generalize hZ : N % 256 = Z at *
  clear hZ
  by_cases hfm : (q : Int) = 0
  · have hbq : q = 0 := by omega
    subst hbq
    by_cases hg : (G : Int) = Z
    · by_cases hn : n + 1 < 4
      · have hnI : (n : Int) < 3 := by omega
        obtain rfl : r = 3 := by
          rcases HR.out with h | h | h | h
          · exact absurd ⟨by omega, hg⟩ h.1
          · exact h.2.2
          · omega
          · omega
        clear HR
        subst hg
        go_enter Tryd.func25, Tryd.ntmps25
        go_wp2_with (first
        | (go_at_call 35; refine NU.out.mono ?_; rintro e w1 ⟨rfl, rfl⟩)
        | (go_at_call 36; refine WH.out.mono ?_; rintro e w1 ⟨rfl, hb⟩; have B1 := Lib.hid (HB.out.trans (hb.mono HB.out.size)); have hcz := (B1.out.cell (p := ⟨b, o, none⟩) HBL.out).trans HZ.out; clear hb)
        | (go_at_call 39; refine (VO.out _ B1.out).mono ?_; rintro e w2 ⟨rfl, rfl⟩))
        go_ret
        exact ⟨rfl, B1.out⟩
      · have hnI : ¬ (n : Int) < 3 := by omega
        by_cases hb5 : 65000 < n
        · have hn5 : (65000 : Int) < (n : Int) := by omega
          obtain rfl : r = 5 := by
            rcases HR.out with h | h | h | h
            · exact absurd ⟨by omega, hg⟩ h.1
            · omega
            · exact h.2.2.2
            · omega
          clear HR
          subst hg
          go_enter Tryd.func25, Tryd.ntmps25
          go_wp2_with (first
        | (go_at_call 35; refine NU.out.mono ?_; rintro e w1 ⟨rfl, rfl⟩)
        | (go_at_call 36; refine WH.out.mono ?_; rintro e w1 ⟨rfl, hb⟩; have B1 := Lib.hid (HB.out.trans (hb.mono HB.out.size)); have hcz := (B1.out.cell (p := ⟨b, o, none⟩) HBL.out).trans HZ.out; clear hb)
        | (go_at_call 39; refine (VO.out _ B1.out).mono ?_; rintro e w2 ⟨rfl, rfl⟩))
          go_ret
          exact ⟨rfl, B1.out⟩
        · have hn5 : ¬ (65000 : Int) < (n : Int) := by omega
          obtain rfl : r = 0 := by
            rcases HR.out with h | h | h | h
            · exact absurd ⟨by omega, hg⟩ h.1
            · omega
            · omega
            · exact h.2.2.2
          clear HR
          subst hg
          go_enter Tryd.func25, Tryd.ntmps25
          go_wp2_with (first
        | (go_at_call 35; refine NU.out.mono ?_; rintro e w1 ⟨rfl, rfl⟩)
        | (go_at_call 36; refine WH.out.mono ?_; rintro e w1 ⟨rfl, hb⟩; have B1 := Lib.hid (HB.out.trans (hb.mono HB.out.size)); have hcz := (B1.out.cell (p := ⟨b, o, none⟩) HBL.out).trans HZ.out; clear hb)
        | (go_at_call 39; refine (VO.out _ B1.out).mono ?_; rintro e w2 ⟨rfl, rfl⟩))
          go_ret
          exact ⟨rfl, B1.out⟩
    · obtain rfl : r = 2 := by
        rcases HR.out with h | h | h | h
        · exact h.2
        · exact absurd h.1.2 hg
        · exact absurd h.1.2 hg
        · exact absurd h.1.2 hg
      clear HR
      go_enter Tryd.func25, Tryd.ntmps25
      go_wp2_with (first
        | (go_at_call 35; refine NU.out.mono ?_; rintro e w1 ⟨rfl, rfl⟩)
        | (go_at_call 36; refine WH.out.mono ?_; rintro e w1 ⟨rfl, hb⟩; have B1 := Lib.hid (HB.out.trans (hb.mono HB.out.size)); have hcz := (B1.out.cell (p := ⟨b, o, none⟩) HBL.out).trans HZ.out; clear hb)
        | (go_at_call 39; refine (VO.out _ B1.out).mono ?_; rintro e w2 ⟨rfl, rfl⟩))
      go_ret
      exact ⟨rfl, B1.out⟩
  · obtain rfl : r = 2 := by
      rcases HR.out with h | h | h | h
      · exact h.2
      · omega
      · omega
      · omega
    clear HR
    go_enter Tryd.func25, Tryd.ntmps25
    go_wp2_with (first
        | (go_at_call 35; refine NU.out.mono ?_; rintro e w1 ⟨rfl, rfl⟩)
        | (go_at_call 36; refine WH.out.mono ?_; rintro e w1 ⟨rfl, hb⟩; have B1 := Lib.hid (HB.out.trans (hb.mono HB.out.size)); have hcz := (B1.out.cell (p := ⟨b, o, none⟩) HBL.out).trans HZ.out; clear hb)
        | (go_at_call 39; refine (VO.out _ B1.out).mono ?_; rintro e w2 ⟨rfl, rfl⟩))
    go_ret
    exact ⟨rfl, B1.out⟩
set_option maxHeartbeats 4000000 in
theorem sealable_2 (K I M : ByteArray) (hK : K.size = 16) (hI : I.size = 12) (hM : M.size = 16) (N : Int) (h0 : 0 ≤ N) (h1 : N ≤ 4611686018427387903) (a a2 : Option Addr) (m c n c2 : Nat) (f : Nat → BitVec 8) (hm : m ≤ 4000) (hc : m ≤ c) (w : World) (hsm : 2 + 1 ≤ m) (h : BytesIn w a m f) (r : Int)
    (hr : (¬ formOk f m 2 N ∧ r = 2) ∨ (formOk f m 2 N ∧ n + 2 < 4 ∧ r = 3) ∨ (formOk f m 2 N ∧ ¬ n + 2 < 4 ∧ 65000 < n ∧ r = 5) ∨ (formOk f m 2 N ∧ ¬ n + 2 < 4 ∧ ¬ 65000 < n ∧ r = 0)) :
    Calls Tryd.prog 25 #[.agg (kysC K I M), .slice a m c, .int .i64 2, .int .i64 N, .slice a2 n c2] w fun e w' => e = .returned (.int .i64 r) ∧ Below w.heap.size w w' := by
  have R0 : (w.alloc (.cells (kysC K I M) 34)).heap[w.heap.size]? = some (.cells (kysC K I M) 34 (0, 0)) := heap_alloc_last _ _
  have hb1 : Below w.heap.size w (w.alloc (.cells (kysC K I M) 34)) := (Below.refl w.heap.size w).alloc (Nat.le_refl _) _
  have HB := Lib.hid hb1
  have NU := Lib.hid (by have := numbers_any N (w.alloc (.cells (kysC K I M) 34)); rw [decide_eq_true (show 0 ≤ N ∧ N ≤ 4611686018427387903 from ⟨h0, h1⟩)] at this; exact this)
  have WH := Lib.hid (by have := whole_any K I M 16 12 16 hK hI hM (w.alloc (.cells (kysC K I M) 34)); rw [decide_eq_true (show 16 = 16 ∧ 12 = 12 ∧ 16 = 16 from ⟨rfl, rfl, rfl⟩)] at this; exact this)
  obtain ⟨c0, c1, c2⟩ := kys_cells R0
  obtain ⟨_, h0' | ⟨b, o, rfl, hb, hcell⟩⟩ := id h
  · omega
  have HBL := Lib.hid hb
  have VO := Lib.hid (fun (w' : World) (hbl : Below w.heap.size w w') => valueOf_any (some ⟨b, o + (m - 2), none⟩) 2 (c - (m - 2)) (fun i => f (m - 2 + i)) (by omega) w' (by
    refine ⟨by unfold maxLen; omega, .inr ⟨b, o + (m - 2), rfl, Nat.lt_of_lt_of_le hb hbl.size, fun i hi => ?_⟩⟩
    rw [hbl.cell (p := ⟨b, o + (m - 2) + i, none⟩) hb, show o + (m - 2) + i = o + (m - 2 + i) by omega]
    exact hcell (m - 2 + i) (by omega)))
  have HR := Lib.hid hr
  have hlow : bits .and .i64 N 65535 = N % 65536 := by
    have h := low_of N h0 h1 16 (by omega)
    rw [show (2 : Int) ^ 16 - 1 = 65535 from by decide, show (2 : Int) ^ 16 = 65536 from by decide] at h
    exact h
  have hf0 := and3 (f 0)
  have hcz := hcell 0 (by omega)
  rw [Nat.add_zero] at hcz
  have HZ := Lib.hid hcz
  clear hcz
  have hmI : ¬ (m : Int) < 3 := by omega
  have s1 := fun w' => run_from_at w' b o (m - 2) m c ((m : Int) - 2) (by omega) (by omega) hc
  rw [show m - (m - 2) = 2 by omega] at s1
  unfold formOk at HR
  rw [show (2 : Int) ^ (8 * 2) = 65536 from by decide] at HR
  have hml : (((f 0).toNat % 4 : Nat) : Int) ≤ 3 := by omega
  generalize hq : (f 0).toNat % 4 = q at *
  clear hr h hcell R0 hb1 hK hI hM
  unfold kysC at *
  generalize numG (fun i => f (m - 2 + i)) 2 = G at *
  generalize hZ : N % 65536 = Z at *
  clear hZ
  by_cases hfm : (q : Int) = 1
  · have hbq : q = 1 := by omega
    subst hbq
    by_cases hg : (G : Int) = Z
    · by_cases hn : n + 2 < 4
      · have hnI : (n : Int) < 2 := by omega
        obtain rfl : r = 3 := by
          rcases HR.out with h | h | h | h
          · exact absurd ⟨by omega, hg⟩ h.1
          · exact h.2.2
          · omega
          · omega
        clear HR
        subst hg
        go_enter Tryd.func25, Tryd.ntmps25
        go_wp2_with (first
        | (go_at_call 35; refine NU.out.mono ?_; rintro e w1 ⟨rfl, rfl⟩)
        | (go_at_call 36; refine WH.out.mono ?_; rintro e w1 ⟨rfl, hb⟩; have B1 := Lib.hid (HB.out.trans (hb.mono HB.out.size)); have hcz := (B1.out.cell (p := ⟨b, o, none⟩) HBL.out).trans HZ.out; clear hb)
        | (go_at_call 39; refine (VO.out _ B1.out).mono ?_; rintro e w2 ⟨rfl, rfl⟩))
        go_ret
        exact ⟨rfl, B1.out⟩
      · have hnI : ¬ (n : Int) < 2 := by omega
        by_cases hb5 : 65000 < n
        · have hn5 : (65000 : Int) < (n : Int) := by omega
          obtain rfl : r = 5 := by
            rcases HR.out with h | h | h | h
            · exact absurd ⟨by omega, hg⟩ h.1
            · omega
            · exact h.2.2.2
            · omega
          clear HR
          subst hg
          go_enter Tryd.func25, Tryd.ntmps25
          go_wp2_with (first
        | (go_at_call 35; refine NU.out.mono ?_; rintro e w1 ⟨rfl, rfl⟩)
        | (go_at_call 36; refine WH.out.mono ?_; rintro e w1 ⟨rfl, hb⟩; have B1 := Lib.hid (HB.out.trans (hb.mono HB.out.size)); have hcz := (B1.out.cell (p := ⟨b, o, none⟩) HBL.out).trans HZ.out; clear hb)
        | (go_at_call 39; refine (VO.out _ B1.out).mono ?_; rintro e w2 ⟨rfl, rfl⟩))
          go_ret
          exact ⟨rfl, B1.out⟩
        · have hn5 : ¬ (65000 : Int) < (n : Int) := by omega
          obtain rfl : r = 0 := by
            rcases HR.out with h | h | h | h
            · exact absurd ⟨by omega, hg⟩ h.1
            · omega
            · omega
            · exact h.2.2.2
          clear HR
          subst hg
          go_enter Tryd.func25, Tryd.ntmps25
          go_wp2_with (first
        | (go_at_call 35; refine NU.out.mono ?_; rintro e w1 ⟨rfl, rfl⟩)
        | (go_at_call 36; refine WH.out.mono ?_; rintro e w1 ⟨rfl, hb⟩; have B1 := Lib.hid (HB.out.trans (hb.mono HB.out.size)); have hcz := (B1.out.cell (p := ⟨b, o, none⟩) HBL.out).trans HZ.out; clear hb)
        | (go_at_call 39; refine (VO.out _ B1.out).mono ?_; rintro e w2 ⟨rfl, rfl⟩))
          go_ret
          exact ⟨rfl, B1.out⟩
    · obtain rfl : r = 2 := by
        rcases HR.out with h | h | h | h
        · exact h.2
        · exact absurd h.1.2 hg
        · exact absurd h.1.2 hg
        · exact absurd h.1.2 hg
      clear HR
      go_enter Tryd.func25, Tryd.ntmps25
      go_wp2_with (first
        | (go_at_call 35; refine NU.out.mono ?_; rintro e w1 ⟨rfl, rfl⟩)
        | (go_at_call 36; refine WH.out.mono ?_; rintro e w1 ⟨rfl, hb⟩; have B1 := Lib.hid (HB.out.trans (hb.mono HB.out.size)); have hcz := (B1.out.cell (p := ⟨b, o, none⟩) HBL.out).trans HZ.out; clear hb)
        | (go_at_call 39; refine (VO.out _ B1.out).mono ?_; rintro e w2 ⟨rfl, rfl⟩))
      go_ret
      exact ⟨rfl, B1.out⟩
  · obtain rfl : r = 2 := by
      rcases HR.out with h | h | h | h
      · exact h.2
      · omega
      · omega
      · omega
    clear HR
    go_enter Tryd.func25, Tryd.ntmps25
    go_wp2_with (first
        | (go_at_call 35; refine NU.out.mono ?_; rintro e w1 ⟨rfl, rfl⟩)
        | (go_at_call 36; refine WH.out.mono ?_; rintro e w1 ⟨rfl, hb⟩; have B1 := Lib.hid (HB.out.trans (hb.mono HB.out.size)); have hcz := (B1.out.cell (p := ⟨b, o, none⟩) HBL.out).trans HZ.out; clear hb)
        | (go_at_call 39; refine (VO.out _ B1.out).mono ?_; rintro e w2 ⟨rfl, rfl⟩))
    go_ret
    exact ⟨rfl, B1.out⟩
set_option maxHeartbeats 4000000 in
theorem sealable_3 (K I M : ByteArray) (hK : K.size = 16) (hI : I.size = 12) (hM : M.size = 16) (N : Int) (h0 : 0 ≤ N) (h1 : N ≤ 4611686018427387903) (a a2 : Option Addr) (m c n c2 : Nat) (f : Nat → BitVec 8) (hm : m ≤ 4000) (hc : m ≤ c) (w : World) (hsm : 3 + 1 ≤ m) (h : BytesIn w a m f) (r : Int)
    (hr : (¬ formOk f m 3 N ∧ r = 2) ∨ (formOk f m 3 N ∧ n + 3 < 4 ∧ r = 3) ∨ (formOk f m 3 N ∧ ¬ n + 3 < 4 ∧ 65000 < n ∧ r = 5) ∨ (formOk f m 3 N ∧ ¬ n + 3 < 4 ∧ ¬ 65000 < n ∧ r = 0)) :
    Calls Tryd.prog 25 #[.agg (kysC K I M), .slice a m c, .int .i64 3, .int .i64 N, .slice a2 n c2] w fun e w' => e = .returned (.int .i64 r) ∧ Below w.heap.size w w' := by
  have R0 : (w.alloc (.cells (kysC K I M) 34)).heap[w.heap.size]? = some (.cells (kysC K I M) 34 (0, 0)) := heap_alloc_last _ _
  have hb1 : Below w.heap.size w (w.alloc (.cells (kysC K I M) 34)) := (Below.refl w.heap.size w).alloc (Nat.le_refl _) _
  have HB := Lib.hid hb1
  have NU := Lib.hid (by have := numbers_any N (w.alloc (.cells (kysC K I M) 34)); rw [decide_eq_true (show 0 ≤ N ∧ N ≤ 4611686018427387903 from ⟨h0, h1⟩)] at this; exact this)
  have WH := Lib.hid (by have := whole_any K I M 16 12 16 hK hI hM (w.alloc (.cells (kysC K I M) 34)); rw [decide_eq_true (show 16 = 16 ∧ 12 = 12 ∧ 16 = 16 from ⟨rfl, rfl, rfl⟩)] at this; exact this)
  obtain ⟨c0, c1, c2⟩ := kys_cells R0
  obtain ⟨_, h0' | ⟨b, o, rfl, hb, hcell⟩⟩ := id h
  · omega
  have HBL := Lib.hid hb
  have VO := Lib.hid (fun (w' : World) (hbl : Below w.heap.size w w') => valueOf_any (some ⟨b, o + (m - 3), none⟩) 3 (c - (m - 3)) (fun i => f (m - 3 + i)) (by omega) w' (by
    refine ⟨by unfold maxLen; omega, .inr ⟨b, o + (m - 3), rfl, Nat.lt_of_lt_of_le hb hbl.size, fun i hi => ?_⟩⟩
    rw [hbl.cell (p := ⟨b, o + (m - 3) + i, none⟩) hb, show o + (m - 3) + i = o + (m - 3 + i) by omega]
    exact hcell (m - 3 + i) (by omega)))
  have HR := Lib.hid hr
  have hlow : bits .and .i64 N 16777215 = N % 16777216 := by
    have h := low_of N h0 h1 24 (by omega)
    rw [show (2 : Int) ^ 24 - 1 = 16777215 from by decide, show (2 : Int) ^ 24 = 16777216 from by decide] at h
    exact h
  have hf0 := and3 (f 0)
  have hcz := hcell 0 (by omega)
  rw [Nat.add_zero] at hcz
  have HZ := Lib.hid hcz
  clear hcz
  have hmI : ¬ (m : Int) < 4 := by omega
  have s1 := fun w' => run_from_at w' b o (m - 3) m c ((m : Int) - 3) (by omega) (by omega) hc
  rw [show m - (m - 3) = 3 by omega] at s1
  unfold formOk at HR
  rw [show (2 : Int) ^ (8 * 3) = 16777216 from by decide] at HR
  have hml : (((f 0).toNat % 4 : Nat) : Int) ≤ 3 := by omega
  generalize hq : (f 0).toNat % 4 = q at *
  clear hr h hcell R0 hb1 hK hI hM
  unfold kysC at *
  generalize numG (fun i => f (m - 3 + i)) 3 = G at *
  generalize hZ : N % 16777216 = Z at *
  clear hZ
  by_cases hfm : (q : Int) = 2
  · have hbq : q = 2 := by omega
    subst hbq
    by_cases hg : (G : Int) = Z
    · by_cases hn : n + 3 < 4
      · have hnI : (n : Int) < 1 := by omega
        obtain rfl : r = 3 := by
          rcases HR.out with h | h | h | h
          · exact absurd ⟨by omega, hg⟩ h.1
          · exact h.2.2
          · omega
          · omega
        clear HR
        subst hg
        go_enter Tryd.func25, Tryd.ntmps25
        go_wp2_with (first
        | (go_at_call 35; refine NU.out.mono ?_; rintro e w1 ⟨rfl, rfl⟩)
        | (go_at_call 36; refine WH.out.mono ?_; rintro e w1 ⟨rfl, hb⟩; have B1 := Lib.hid (HB.out.trans (hb.mono HB.out.size)); have hcz := (B1.out.cell (p := ⟨b, o, none⟩) HBL.out).trans HZ.out; clear hb)
        | (go_at_call 39; refine (VO.out _ B1.out).mono ?_; rintro e w2 ⟨rfl, rfl⟩))
        go_ret
        exact ⟨rfl, B1.out⟩
      · have hnI : ¬ (n : Int) < 1 := by omega
        by_cases hb5 : 65000 < n
        · have hn5 : (65000 : Int) < (n : Int) := by omega
          obtain rfl : r = 5 := by
            rcases HR.out with h | h | h | h
            · exact absurd ⟨by omega, hg⟩ h.1
            · omega
            · exact h.2.2.2
            · omega
          clear HR
          subst hg
          go_enter Tryd.func25, Tryd.ntmps25
          go_wp2_with (first
        | (go_at_call 35; refine NU.out.mono ?_; rintro e w1 ⟨rfl, rfl⟩)
        | (go_at_call 36; refine WH.out.mono ?_; rintro e w1 ⟨rfl, hb⟩; have B1 := Lib.hid (HB.out.trans (hb.mono HB.out.size)); have hcz := (B1.out.cell (p := ⟨b, o, none⟩) HBL.out).trans HZ.out; clear hb)
        | (go_at_call 39; refine (VO.out _ B1.out).mono ?_; rintro e w2 ⟨rfl, rfl⟩))
          go_ret
          exact ⟨rfl, B1.out⟩
        · have hn5 : ¬ (65000 : Int) < (n : Int) := by omega
          obtain rfl : r = 0 := by
            rcases HR.out with h | h | h | h
            · exact absurd ⟨by omega, hg⟩ h.1
            · omega
            · omega
            · exact h.2.2.2
          clear HR
          subst hg
          go_enter Tryd.func25, Tryd.ntmps25
          go_wp2_with (first
        | (go_at_call 35; refine NU.out.mono ?_; rintro e w1 ⟨rfl, rfl⟩)
        | (go_at_call 36; refine WH.out.mono ?_; rintro e w1 ⟨rfl, hb⟩; have B1 := Lib.hid (HB.out.trans (hb.mono HB.out.size)); have hcz := (B1.out.cell (p := ⟨b, o, none⟩) HBL.out).trans HZ.out; clear hb)
        | (go_at_call 39; refine (VO.out _ B1.out).mono ?_; rintro e w2 ⟨rfl, rfl⟩))
          go_ret
          exact ⟨rfl, B1.out⟩
    · obtain rfl : r = 2 := by
        rcases HR.out with h | h | h | h
        · exact h.2
        · exact absurd h.1.2 hg
        · exact absurd h.1.2 hg
        · exact absurd h.1.2 hg
      clear HR
      go_enter Tryd.func25, Tryd.ntmps25
      go_wp2_with (first
        | (go_at_call 35; refine NU.out.mono ?_; rintro e w1 ⟨rfl, rfl⟩)
        | (go_at_call 36; refine WH.out.mono ?_; rintro e w1 ⟨rfl, hb⟩; have B1 := Lib.hid (HB.out.trans (hb.mono HB.out.size)); have hcz := (B1.out.cell (p := ⟨b, o, none⟩) HBL.out).trans HZ.out; clear hb)
        | (go_at_call 39; refine (VO.out _ B1.out).mono ?_; rintro e w2 ⟨rfl, rfl⟩))
      go_ret
      exact ⟨rfl, B1.out⟩
  · obtain rfl : r = 2 := by
      rcases HR.out with h | h | h | h
      · exact h.2
      · omega
      · omega
      · omega
    clear HR
    go_enter Tryd.func25, Tryd.ntmps25
    go_wp2_with (first
        | (go_at_call 35; refine NU.out.mono ?_; rintro e w1 ⟨rfl, rfl⟩)
        | (go_at_call 36; refine WH.out.mono ?_; rintro e w1 ⟨rfl, hb⟩; have B1 := Lib.hid (HB.out.trans (hb.mono HB.out.size)); have hcz := (B1.out.cell (p := ⟨b, o, none⟩) HBL.out).trans HZ.out; clear hb)
        | (go_at_call 39; refine (VO.out _ B1.out).mono ?_; rintro e w2 ⟨rfl, rfl⟩))
    go_ret
    exact ⟨rfl, B1.out⟩
set_option maxHeartbeats 4000000 in
theorem sealable_4 (K I M : ByteArray) (hK : K.size = 16) (hI : I.size = 12) (hM : M.size = 16) (N : Int) (h0 : 0 ≤ N) (h1 : N ≤ 4611686018427387903) (a a2 : Option Addr) (m c n c2 : Nat) (f : Nat → BitVec 8) (hm : m ≤ 4000) (hc : m ≤ c) (w : World) (hsm : 4 + 1 ≤ m) (h : BytesIn w a m f) (r : Int)
    (hr : (¬ formOk f m 4 N ∧ r = 2) ∨ (formOk f m 4 N ∧ n + 4 < 4 ∧ r = 3) ∨ (formOk f m 4 N ∧ ¬ n + 4 < 4 ∧ 65000 < n ∧ r = 5) ∨ (formOk f m 4 N ∧ ¬ n + 4 < 4 ∧ ¬ 65000 < n ∧ r = 0)) :
    Calls Tryd.prog 25 #[.agg (kysC K I M), .slice a m c, .int .i64 4, .int .i64 N, .slice a2 n c2] w fun e w' => e = .returned (.int .i64 r) ∧ Below w.heap.size w w' := by
  have R0 : (w.alloc (.cells (kysC K I M) 34)).heap[w.heap.size]? = some (.cells (kysC K I M) 34 (0, 0)) := heap_alloc_last _ _
  have hb1 : Below w.heap.size w (w.alloc (.cells (kysC K I M) 34)) := (Below.refl w.heap.size w).alloc (Nat.le_refl _) _
  have HB := Lib.hid hb1
  have NU := Lib.hid (by have := numbers_any N (w.alloc (.cells (kysC K I M) 34)); rw [decide_eq_true (show 0 ≤ N ∧ N ≤ 4611686018427387903 from ⟨h0, h1⟩)] at this; exact this)
  have WH := Lib.hid (by have := whole_any K I M 16 12 16 hK hI hM (w.alloc (.cells (kysC K I M) 34)); rw [decide_eq_true (show 16 = 16 ∧ 12 = 12 ∧ 16 = 16 from ⟨rfl, rfl, rfl⟩)] at this; exact this)
  obtain ⟨c0, c1, c2⟩ := kys_cells R0
  obtain ⟨_, h0' | ⟨b, o, rfl, hb, hcell⟩⟩ := id h
  · omega
  have HBL := Lib.hid hb
  have VO := Lib.hid (fun (w' : World) (hbl : Below w.heap.size w w') => valueOf_any (some ⟨b, o + (m - 4), none⟩) 4 (c - (m - 4)) (fun i => f (m - 4 + i)) (by omega) w' (by
    refine ⟨by unfold maxLen; omega, .inr ⟨b, o + (m - 4), rfl, Nat.lt_of_lt_of_le hb hbl.size, fun i hi => ?_⟩⟩
    rw [hbl.cell (p := ⟨b, o + (m - 4) + i, none⟩) hb, show o + (m - 4) + i = o + (m - 4 + i) by omega]
    exact hcell (m - 4 + i) (by omega)))
  have HR := Lib.hid hr
  have hlow : bits .and .i64 N 4294967295 = N % 4294967296 := by
    have h := low_of N h0 h1 32 (by omega)
    rw [show (2 : Int) ^ 32 - 1 = 4294967295 from by decide, show (2 : Int) ^ 32 = 4294967296 from by decide] at h
    exact h
  have hf0 := and3 (f 0)
  have hcz := hcell 0 (by omega)
  rw [Nat.add_zero] at hcz
  have HZ := Lib.hid hcz
  clear hcz
  have hmI : ¬ (m : Int) < 5 := by omega
  have s1 := fun w' => run_from_at w' b o (m - 4) m c ((m : Int) - 4) (by omega) (by omega) hc
  rw [show m - (m - 4) = 4 by omega] at s1
  unfold formOk at HR
  rw [show (2 : Int) ^ (8 * 4) = 4294967296 from by decide] at HR
  have hml : (((f 0).toNat % 4 : Nat) : Int) ≤ 3 := by omega
  generalize hq : (f 0).toNat % 4 = q at *
  clear hr h hcell R0 hb1 hK hI hM
  unfold kysC at *
  generalize numG (fun i => f (m - 4 + i)) 4 = G at *
  generalize hZ : N % 4294967296 = Z at *
  clear hZ
  by_cases hfm : (q : Int) = 3
  · have hbq : q = 3 := by omega
    subst hbq
    by_cases hg : (G : Int) = Z
    · by_cases hn : n + 4 < 4
      · omega
      · have hnI : ¬ (n : Int) < 0 := by omega
        by_cases hb5 : 65000 < n
        · have hn5 : (65000 : Int) < (n : Int) := by omega
          obtain rfl : r = 5 := by
            rcases HR.out with h | h | h | h
            · exact absurd ⟨by omega, hg⟩ h.1
            · omega
            · exact h.2.2.2
            · omega
          clear HR
          subst hg
          go_enter Tryd.func25, Tryd.ntmps25
          go_wp2_with (first
        | (go_at_call 35; refine NU.out.mono ?_; rintro e w1 ⟨rfl, rfl⟩)
        | (go_at_call 36; refine WH.out.mono ?_; rintro e w1 ⟨rfl, hb⟩; have B1 := Lib.hid (HB.out.trans (hb.mono HB.out.size)); have hcz := (B1.out.cell (p := ⟨b, o, none⟩) HBL.out).trans HZ.out; clear hb)
        | (go_at_call 39; refine (VO.out _ B1.out).mono ?_; rintro e w2 ⟨rfl, rfl⟩))
          go_ret
          exact ⟨rfl, B1.out⟩
        · have hn5 : ¬ (65000 : Int) < (n : Int) := by omega
          obtain rfl : r = 0 := by
            rcases HR.out with h | h | h | h
            · exact absurd ⟨by omega, hg⟩ h.1
            · omega
            · omega
            · exact h.2.2.2
          clear HR
          subst hg
          go_enter Tryd.func25, Tryd.ntmps25
          go_wp2_with (first
        | (go_at_call 35; refine NU.out.mono ?_; rintro e w1 ⟨rfl, rfl⟩)
        | (go_at_call 36; refine WH.out.mono ?_; rintro e w1 ⟨rfl, hb⟩; have B1 := Lib.hid (HB.out.trans (hb.mono HB.out.size)); have hcz := (B1.out.cell (p := ⟨b, o, none⟩) HBL.out).trans HZ.out; clear hb)
        | (go_at_call 39; refine (VO.out _ B1.out).mono ?_; rintro e w2 ⟨rfl, rfl⟩))
          go_ret
          exact ⟨rfl, B1.out⟩
    · obtain rfl : r = 2 := by
        rcases HR.out with h | h | h | h
        · exact h.2
        · exact absurd h.1.2 hg
        · exact absurd h.1.2 hg
        · exact absurd h.1.2 hg
      clear HR
      go_enter Tryd.func25, Tryd.ntmps25
      go_wp2_with (first
        | (go_at_call 35; refine NU.out.mono ?_; rintro e w1 ⟨rfl, rfl⟩)
        | (go_at_call 36; refine WH.out.mono ?_; rintro e w1 ⟨rfl, hb⟩; have B1 := Lib.hid (HB.out.trans (hb.mono HB.out.size)); have hcz := (B1.out.cell (p := ⟨b, o, none⟩) HBL.out).trans HZ.out; clear hb)
        | (go_at_call 39; refine (VO.out _ B1.out).mono ?_; rintro e w2 ⟨rfl, rfl⟩))
      go_ret
      exact ⟨rfl, B1.out⟩
  · obtain rfl : r = 2 := by
      rcases HR.out with h | h | h | h
      · exact h.2
      · omega
      · omega
      · omega
    clear HR
    go_enter Tryd.func25, Tryd.ntmps25
    go_wp2_with (first
        | (go_at_call 35; refine NU.out.mono ?_; rintro e w1 ⟨rfl, rfl⟩)
        | (go_at_call 36; refine WH.out.mono ?_; rintro e w1 ⟨rfl, hb⟩; have B1 := Lib.hid (HB.out.trans (hb.mono HB.out.size)); have hcz := (B1.out.cell (p := ⟨b, o, none⟩) HBL.out).trans HZ.out; clear hb)
        | (go_at_call 39; refine (VO.out _ B1.out).mono ?_; rintro e w2 ⟨rfl, rfl⟩))
    go_ret
    exact ⟨rfl, B1.out⟩
theorem sealable_ok (K I M : ByteArray) (hK : K.size = 16) (hI : I.size = 12) (hM : M.size = 16) (N : Int) (h0 : 0 ≤ N) (h1 : N ≤ 4611686018427387903) (s : Nat) (hs1 : 1 ≤ s) (hs4 : s ≤ 4) (a a2 : Option Addr) (m c n c2 : Nat) (f : Nat → BitVec 8) (hm : m ≤ 4000) (hc : m ≤ c) (w : World) (hsm : s + 1 ≤ m) (h : BytesIn w a m f) (r : Int)
    (hr : (¬ formOk f m s N ∧ r = 2) ∨ (formOk f m s N ∧ n + s < 4 ∧ r = 3) ∨ (formOk f m s N ∧ ¬ n + s < 4 ∧ 65000 < n ∧ r = 5) ∨ (formOk f m s N ∧ ¬ n + s < 4 ∧ ¬ 65000 < n ∧ r = 0)) :
    Calls Tryd.prog 25 #[.agg (kysC K I M), .slice a m c, .int .i64 (s : Int), .int .i64 N, .slice a2 n c2] w fun e w' => e = .returned (.int .i64 r) ∧ Below w.heap.size w w' := by
  rcases (by omega : s = 1 ∨ s = 2 ∨ s = 3 ∨ s = 4) with rfl | rfl | rfl | rfl
  · exact sealable_1 K I M hK hI hM N h0 h1 a a2 m c n c2 f hm hc w hsm h r hr
  · exact sealable_2 K I M hK hI hM N h0 h1 a a2 m c n c2 f hm hc w hsm h r hr
  · exact sealable_3 K I M hK hI hM N h0 h1 a a2 m c n c2 f hm hc w hsm h r hr
  · exact sealable_4 K I M hK hI hM N h0 h1 a a2 m c n c2 f hm hc w hsm h r hr
end Go.Proofs.YtjbpjoondmcnlabDoor
namespace Go.Proofs.YtjbpjoondmcnlabDoor
open Go Go.RowKit Go.BigFrame
set_option linter.unusedSimpArgs false
set_option linter.unusedVariables false
set_option maxRecDepth 100000
theorem small8 {P : BitVec 8 → Prop} (h : ∀ n : Nat, n < 256 → P (BitVec.ofNat 8 n)) (x : BitVec 8) : P x := by
  have := h x.toNat x.isLt
  rwa [BitVec.ofNat_toNat, BitVec.setWidth_eq] at this
theorem mod16 (x : BitVec 8) : n8 x % 16 = n8 (x &&& 15#8) := by
  rw [n8_nat, n8_nat, BitVec.toNat_and, show x.toNat &&& (15#8).toNat = x.toNat % 16 from Nat.and_two_pow_sub_one_eq_mod x.toNat 4]; omega
theorem mod32 (x : BitVec 8) : n8 x % 32 = n8 (x &&& 31#8) := by
  rw [n8_nat, n8_nat, BitVec.toNat_and, show x.toNat &&& (31#8).toNat = x.toNat % 32 from Nat.and_two_pow_sub_one_eq_mod x.toNat 5]; omega
theorem top_iff (x : BitVec 8) : x &&& 128#8 = 0#8 ↔ x.toNat < 128 := small8 (P := fun x => x &&& 128#8 = 0#8 ↔ x.toNat < 128) (by decide +kernel) x
/-- A text with its first byte and s from at on hidden. -/
def hidP (mk b : Nat → BitVec 8) (at_ s : Nat) : Nat → BitVec 8 := togF (updb b 0 (veilF (b 0) (mskF mk (fun i => b (at_ + i)) 0))) (fun i => mskF mk (fun i => b (at_ + i)) (1 + i)) at_ s
set_option maxHeartbeats 8000000 in
theorem masked_any (mk b : Nat → BitVec 8) (K I : ByteArray) (n p s : Nat) (hs : s ≤ 4) (hp : 1 ≤ p) (hn : p + 20 ≤ n) (hn2 : n ≤ 100000) (w : World) :
    Calls Tryd.prog 24 #[.agg (kysC K I (strOf mk 16)), .string (strOf b n), .int .i64 (p : Int), .int .i64 (s : Int)] w fun e w' => e = .returned (.string (strOf (hidP mk b p s) n)) ∧ Below w.heap.size w w' := by
  have R0 : (w.alloc (.cells (kysC K I (strOf mk 16)) 23)).heap[w.heap.size]? = some (.cells (kysC K I (strOf mk 16)) 23 (0, 0)) := heap_alloc_last _ _
  have hb1 : Below w.heap.size w (w.alloc (.cells (kysC K I (strOf mk 16)) 23)) := (Below.refl w.heap.size w).alloc (Nat.le_refl _) _
  obtain ⟨c0, c1, c2⟩ := kys_cells R0
  have HB := Lib.hid hb1
  have C2 := Lib.hid c2
  have S1 := Lib.hid (fun w' => run_str_mid b (p + 4) (p + 20) n ((p : Int) + 4) ((p : Int) + 20) (by omega) (by omega) (by omega) (by omega) w')
  rw [show p + 20 - (p + 4) = 16 by omega, show (fun i => b (p + 4 + i)) = (fun i => (fun j => b (p + j)) (4 + i)) from funext fun i => by show b _ = b _; rw [Nat.add_assoc]] at S1
  have RD := Lib.hid (fun w' => readyR_any mk w')
  have BK := Lib.hid (fun (w' : World) (q : Nat) (hk : w'.heap[q]? = some (.cells (bytesArr (keyF (kbyte mk)) 432) 110 (0, 0))) => blockR_any mk (fun i => (fun j => b (p + j)) (4 + i)) q w' hk)
  have i0 := fun w' => run_at_str b n 0 (by omega) w'
  have j0 := fun w' => run_at_str (mskF mk (fun i => b (p + i))) 16 0 (by omega) w'
  have JK := Lib.hid (fun (k : Nat) (hk : 1 + k < 16) (w' : World) => (by have h := run_at_str (mskF mk (fun i => b (p + i))) 16 (1 + k) hk w'; rw [Int.natCast_add] at h; exact h : (Instr.index 9 (.string (strOf (mskF mk (fun i => b (p + i))) 16)) (.int .i64 (1 + (k : Int)))).run Tryd.prog w' = .ok (.int .u8 (n8 (mskF mk (fun i => b (p + i)) (1 + k)))) w'))
  have CO := Lib.hid (fun (w' : World) => conv_ownZ b n (by omega) w' w'.heap.size (Nat.le_refl _))
  have hm : strOf (turned sbox (sched mk) (W4.of (fun i => (fun j => b (p + j)) (4 + i)))).byte 16 = strOf (mskF mk (fun i => b (p + i))) 16 := rfl
  rw [hm] at BK
  unfold hidP
  generalize mskF mk (fun i => b (p + i)) = M at *
  generalize hvv : veilF (b 0) (M 0) = VV at *
  have hp4 : IntKind.wrap .i64 ((p : Int) + 4) = (p : Int) + 4 := by simp only [IntKind.wrap, IntKind.bits, IntKind.signed]; simp; omega
  have hp20 : IntKind.wrap .i64 ((p : Int) + 20) = (p : Int) + 20 := by simp only [IntKind.wrap, IntKind.bits, IntKind.signed]; simp; omega
  clear c0 c1 c2 R0 hb1 hm
  unfold kysC at *
  generalize strOf mk 16 = SK at *
  generalize strOf (fun i => (fun j => b (p + j)) (4 + i)) 16 = SS at *
  generalize strOf b n = SB at *
  generalize strOf M 16 = SM at *
  simp only [Int.ofNat_zero, Int.natCast_zero] at i0 j0
  go_enter Tryd.func24, Tryd.ntmps24
  go_upto_region 1 with (fail)
  have HL := Lib.hid (show w.heap.size < (w.alloc (.cells #[.string K, .string I, .string SK] 23)).heap.size by simp)
  generalize w.alloc _ = w1 at *
  refine region_anyM mixedOrders ?_
  refine anyM_take (i := 0) (oi := ⟨some 12, _, _, _, _, _⟩) (v := .pointer (some ⟨w.heap.size, 2, none⟩)) rfl (by kernel_rfl) (by kernel_rfl) (by kernel_rfl) (fun _ _ _ h => h) (.inl ⟨by rfl, fun w2 hw2 => ?_⟩) ?_
  · clear hw2
    go_simp
  simp only [Act.put, List.setIfInBounds_toArray, List.set_cons_succ, List.set_cons_zero]
  refine anyM_take (i := 1) (oi := ⟨some 13, _, _, _, _, _⟩) (v := .string SK) rfl (by kernel_rfl) (by kernel_rfl) (by kernel_rfl) (fun _ _ _ h => h) (.inl ⟨by rfl, fun w2 hw2 => ?_⟩) ?_
  · have hc2 : w2.cell? ⟨w.heap.size, 2, none⟩ = some (.string SK) := ((show Below w1.drew.heap.size w1.drew w2 from hw2).cell (p := ⟨w.heap.size, 2, none⟩) HL.out).trans C2.out
    clear hw2
    go_simp
  simp only [Act.put, List.setIfInBounds_toArray, List.set_cons_succ, List.set_cons_zero]
  refine anyM_take (i := 3) (oi := ⟨some 15, _, _, _, _, _⟩) (v := .string SB) rfl (by kernel_rfl) (by kernel_rfl) (by kernel_rfl) (fun _ _ _ h => h) (.inl ⟨by rfl, fun w2 hw2 => ?_⟩) ?_
  · clear hw2
    go_simp
  simp only [Act.put, List.setIfInBounds_toArray, List.set_cons_succ, List.set_cons_zero]
  refine anyM_take (i := 4) (oi := ⟨some 16, _, _, _, _, _⟩) (v := .int .i64 (p : Int)) rfl (by kernel_rfl) (by kernel_rfl) (by kernel_rfl) (fun _ _ _ h => h) (.inl ⟨by rfl, fun w2 hw2 => ?_⟩) ?_
  · clear hw2
    go_simp
  simp only [Act.put, List.setIfInBounds_toArray, List.set_cons_succ, List.set_cons_zero]
  refine anyM_take (i := 5) (oi := ⟨some 17, _, _, _, _, _⟩) (v := .int .i64 ((p : Int) + 4)) rfl (by kernel_rfl) (by kernel_rfl) (by kernel_rfl) (fun _ _ _ h => h) (.inl ⟨by rfl, fun w2 hw2 => ?_⟩) ?_
  · clear hw2
    go_simp
  simp only [Act.put, List.setIfInBounds_toArray, List.set_cons_succ, List.set_cons_zero]
  refine anyM_take (i := 6) (oi := ⟨some 18, _, _, _, _, _⟩) (v := .int .i64 (p : Int)) rfl (by kernel_rfl) (by kernel_rfl) (by kernel_rfl) (fun _ _ _ h => h) (.inl ⟨by rfl, fun w2 hw2 => ?_⟩) ?_
  · clear hw2
    go_simp
  simp only [Act.put, List.setIfInBounds_toArray, List.set_cons_succ, List.set_cons_zero]
  refine anyM_take (i := 7) (oi := ⟨some 19, _, _, _, _, _⟩) (v := .int .i64 ((p : Int) + 20)) rfl (by kernel_rfl) (by kernel_rfl) (by kernel_rfl) (fun _ _ _ h => h) (.inl ⟨by rfl, fun w2 hw2 => ?_⟩) ?_
  · clear hw2
    go_simp
  simp only [Act.put, List.setIfInBounds_toArray, List.set_cons_succ, List.set_cons_zero]
  refine anyM_take (i := 8) (oi := ⟨some 20, _, _, _, _, _⟩) (v := .string SS) rfl (by kernel_rfl) (by kernel_rfl) (by kernel_rfl) (fun _ _ _ h => h) (.inl ⟨by rfl, fun w2 hw2 => ?_⟩) ?_
  · have hs1 := S1.out
    clear hw2
    go_simp
  simp only [Act.put, List.setIfInBounds_toArray, List.set_cons_succ, List.set_cons_zero]
  refine anyM_call (i := 2) (o := ⟨some 14, _, _, _, _, _⟩) 43 #[.string SK] (by kernel_rfl) rfl (by rfl) (fun w2 => by go_simp) (fun w4 hw4 => ?_)
  have b4 := ext_below hw4 HB.out.drew HB.out.drew.size
  refine (RD.out w4).mono ?_
  rintro e w5 ⟨k5, rfl, my⟩
  refine ⟨_, rfl, my.below, ?_⟩
  have B5 := Lib.hid (b4.trans (my.below.mono b4.size))
  have K5 := Lib.hid my.row
  clear my hw4 b4 RD HL C2
  simp only [Act.put, List.setIfInBounds_toArray, List.set_cons_succ, List.set_cons_zero]
  refine anyM_call (i := 9) (o := ⟨some 21, _, _, _, _, _⟩) 46 #[.pointer (some ⟨k5, 0, none⟩), .string SS] (by kernel_rfl) rfl (by rfl) (fun w2 => by go_simp) (fun w6 hw6 => ?_)
  have b6 := ext_below hw6 B5.out B5.out.size
  refine (BK.out w6 k5 ((Below.block (show Below w5.heap.size w5 w6 from hw6) k5 (lt_row K5.out)).trans K5.out)).mono ?_
  rintro e w7 ⟨rfl, hb7⟩
  refine ⟨_, rfl, hb7, ?_⟩
  have B7 := Lib.hid (b6.trans (hb7.mono b6.size))
  clear hw6 b6 hb7 BK B5 K5
  simp only [Act.put, List.setIfInBounds_toArray, List.set_cons_succ, List.set_cons_zero]
  refine anyM_take (i := 10) (oi := ⟨some 9, _, _, _, _, _⟩) (v := .string SM) rfl (by kernel_rfl) (by kernel_rfl) (by kernel_rfl) (fun _ _ _ h => h) (.inl ⟨by rfl, fun w2 hw2 => ?_⟩) ?_
  · clear hw2
    go_simp
  simp only [Act.put, List.setIfInBounds_toArray, List.set_cons_succ, List.set_cons_zero]
  refine anyM_done (by kernel_rfl) (fun w8 hw8 => ?_)
  have B8 := Lib.hid (ext_below hw8 B7.out B7.out.size)
  clear hw8 B7
  obtain ⟨v9, w9, hcv, o9, b9⟩ := CO.out w8
  obtain ⟨g, c, rfl, hg, hc, hcm, rz⟩ := o9.rowZ (by omega)
  have RZ := Lib.hid rz
  have B9 := Lib.hid (B8.out.trans (b9.mono B8.out.size))
  have hgq : w.heap.size ≤ g := Nat.le_trans B8.out.size hg
  clear o9 b9 rz B8 CO
  by_cases ht : b 0 &&& 128#8 = 0#8
  · have hge : ¬ (128 : Int) ≤ n8 (b 0) := by have := (top_iff _).1 ht; rw [n8_nat]; omega
    obtain rfl : VV = b 0 ^^^ (M 0 &&& 31#8) := by rw [← hvv]; unfold veilF; rw [if_pos ht]
    clear hvv
    have cz := RZ.out.at 0 (by omega)
    have fz := RZ.out.free 0 (by omega)
    go_upto_region 5 with (fail)
    clear hcv
    go_region
    go_wp2_with fail
    have ex : bits .xor .u8 (n8 (b 0)) ((n8 (M 0)).tmod 32) = n8 (b 0 ^^^ (M 0 &&& 31#8)) := by rw [Int.tmod_eq_emod_of_nonneg (by rw [n8_nat]; omega), mod32]; exact xor_b _ _
    rw [ex]
    have RY := Lib.hid (RZ.out.set 0 (b 0 ^^^ (M 0 &&& 31#8)))
    have BY := Lib.hid (B9.out.setCell hgq (p := ⟨g, 0, none⟩) (.int .u8 (n8 (b 0 ^^^ (M 0 &&& 31#8)))))
    clear cz fz RZ B9 ex
    generalize World.setCell _ _ _ = wy at *
    generalize hV : updb b 0 _ = V at *
    have HV := Lib.hid hV
    clear hV
    go_loopw [11] (fun s11 wr => ∃ k : Nat, k ≤ s ∧ s11 = .int .i64 (k : Int) ∧ RowZ wr g n (togF V (fun i => M (1 + i)) p k) ∧ Below w.heap.size w wr) (fun s11 _ => s - (intOf s11).toNat)
    case atStart => exact ⟨0, by omega, rfl, RY.out.congr (fun i hi => by unfold togF; rw [if_neg (by omega)]), BY.out.drew⟩
    case round =>
      clear RY BY
      obtain ⟨k, hk, rfl, rz, bel⟩ := hrel
      have BEL := Lib.hid bel
      have RZ := Lib.hid rz
      clear bel rz
      by_cases hlt : k < s
      · have hlI : (k : Int) < (s : Int) := by omega
        have c1 := RZ.out.at (p + k) (by omega)
        have f1 := RZ.out.free (p + k) (by omega)
        have jk := JK.out k (by omega)
        have hx : togF V (fun i => M (1 + i)) p k (p + k) = V (p + k) := by unfold togF; rw [if_neg (by omega)]
        rw [hx] at c1
        have hi1 : (p : Int) + (k : Int) = ((p + k : Nat) : Int) := by omega
        have hw1 : IntKind.wrap .i64 ((p + k : Nat) : Int) = ((p + k : Nat) : Int) := by simp only [IntKind.wrap, IntKind.bits, IntKind.signed]; simp; omega
        have hw2 : IntKind.wrap .i64 ((1 : Int) + (k : Int)) = (1 : Int) + (k : Int) := by simp only [IntKind.wrap, IntKind.bits, IntKind.signed]; simp; omega
        have hjn : p + k < n := by omega
        generalize hj : p + k = j at *
        go_upto_region 9 with (fail)
        go_region
        go_wp2_with fail
        refine ⟨⟨k + 1, by omega, by go_num, ?_, (BEL.out.setCell hgq _).drew⟩, (by simp [intOf] <;> omega)⟩
        obtain ⟨cur, fr, r⟩ := (RZ.out.set j (V j ^^^ M (1 + k))).congr (f' := togF V (fun i => M (1 + i)) p (k + 1)) (fun i hi => by
          unfold updb togF
          by_cases hij : i = j
          · subst hij
            rw [if_pos rfl, if_pos (by omega), show i - p = k by omega]
          · rw [if_neg hij]
            by_cases h2 : p ≤ i ∧ i < p + k
            · rw [if_pos h2, if_pos (by omega)]
            · rw [if_neg h2, if_neg (by omega)])
        exact ⟨cur, fr, r⟩
      · obtain rfl : k = s := by omega
        have hN : ¬ ((k : Int) < (k : Int)) := by omega
        have cv := conv_in _ _ n c wr (RZ.out.bytesIn (by unfold maxLen; omega))
        go_wp2_with fail
        go_ret
        exact ⟨by rw [HV.out]; rfl, BEL.out⟩
  · have hge : (128 : Int) ≤ n8 (b 0) := by have := mt (top_iff _).2 ht; rw [n8_nat]; omega
    obtain rfl : VV = b 0 ^^^ (M 0 &&& 15#8) := by rw [← hvv]; unfold veilF; rw [if_neg ht]
    clear hvv
    have cz := RZ.out.at 0 (by omega)
    have fz := RZ.out.free 0 (by omega)
    go_upto_region 4 with (fail)
    clear hcv
    go_region
    go_wp2_with fail
    have ex : bits .xor .u8 (n8 (b 0)) ((n8 (M 0)).tmod 16) = n8 (b 0 ^^^ (M 0 &&& 15#8)) := by rw [Int.tmod_eq_emod_of_nonneg (by rw [n8_nat]; omega), mod16]; exact xor_b _ _
    rw [ex]
    have RY := Lib.hid (RZ.out.set 0 (b 0 ^^^ (M 0 &&& 15#8)))
    have BY := Lib.hid (B9.out.setCell hgq (p := ⟨g, 0, none⟩) (.int .u8 (n8 (b 0 ^^^ (M 0 &&& 15#8)))))
    clear cz fz RZ B9 ex
    generalize World.setCell _ _ _ = wy at *
    generalize hV : updb b 0 _ = V at *
    have HV := Lib.hid hV
    clear hV
    go_loopw [11] (fun s11 wr => ∃ k : Nat, k ≤ s ∧ s11 = .int .i64 (k : Int) ∧ RowZ wr g n (togF V (fun i => M (1 + i)) p k) ∧ Below w.heap.size w wr) (fun s11 _ => s - (intOf s11).toNat)
    case atStart => exact ⟨0, by omega, rfl, RY.out.congr (fun i hi => by unfold togF; rw [if_neg (by omega)]), BY.out.drew⟩
    case round =>
      clear RY BY
      obtain ⟨k, hk, rfl, rz, bel⟩ := hrel
      have BEL := Lib.hid bel
      have RZ := Lib.hid rz
      clear bel rz
      by_cases hlt : k < s
      · have hlI : (k : Int) < (s : Int) := by omega
        have c1 := RZ.out.at (p + k) (by omega)
        have f1 := RZ.out.free (p + k) (by omega)
        have jk := JK.out k (by omega)
        have hx : togF V (fun i => M (1 + i)) p k (p + k) = V (p + k) := by unfold togF; rw [if_neg (by omega)]
        rw [hx] at c1
        have hi1 : (p : Int) + (k : Int) = ((p + k : Nat) : Int) := by omega
        have hw1 : IntKind.wrap .i64 ((p + k : Nat) : Int) = ((p + k : Nat) : Int) := by simp only [IntKind.wrap, IntKind.bits, IntKind.signed]; simp; omega
        have hw2 : IntKind.wrap .i64 ((1 : Int) + (k : Int)) = (1 : Int) + (k : Int) := by simp only [IntKind.wrap, IntKind.bits, IntKind.signed]; simp; omega
        have hjn : p + k < n := by omega
        generalize hj : p + k = j at *
        go_upto_region 9 with (fail)
        go_region
        go_wp2_with fail
        refine ⟨⟨k + 1, by omega, by go_num, ?_, (BEL.out.setCell hgq _).drew⟩, (by simp [intOf] <;> omega)⟩
        obtain ⟨cur, fr, r⟩ := (RZ.out.set j (V j ^^^ M (1 + k))).congr (f' := togF V (fun i => M (1 + i)) p (k + 1)) (fun i hi => by
          unfold updb togF
          by_cases hij : i = j
          · subst hij
            rw [if_pos rfl, if_pos (by omega), show i - p = k by omega]
          · rw [if_neg hij]
            by_cases h2 : p ≤ i ∧ i < p + k
            · rw [if_pos h2, if_pos (by omega)]
            · rw [if_neg h2, if_neg (by omega)])
        exact ⟨cur, fr, r⟩
      · obtain rfl : k = s := by omega
        have hN : ¬ ((k : Int) < (k : Int)) := by omega
        have cv := conv_in _ _ n c wr (RZ.out.bytesIn (by unfold maxLen; omega))
        go_wp2_with fail
        go_ret
        exact ⟨by rw [HV.out]; rfl, BEL.out⟩
end Go.Proofs.YtjbpjoondmcnlabDoor
namespace Go.Proofs.YtjbpjoondmcnlabDoor
open Go Go.RowKit Go.BigFrame
set_option linter.unusedSimpArgs false
set_option linter.unusedVariables false
set_option maxRecDepth 100000
theorem num_iff (g : Nat → BitVec 8) : ∀ (s n : Nat), numG g s = n % 256 ^ s ↔ ∀ i, i < s → (g (s - 1 - i)).toNat = n / 256 ^ i % 256
  | 0, n => by simp [numG, Nat.mod_one]
  | s + 1, n => by
    have ih := num_iff g s (n / 256)
    have hp : (256 : Nat) ^ (s + 1) = 256 * 256 ^ s := by rw [Nat.pow_succ, Nat.mul_comm]
    have hg := (g s).isLt
    show numG g s * 256 + (g s).toNat = n % 256 ^ (s + 1) ↔ _
    rw [hp, Nat.mod_mul]
    constructor
    · intro h
      have h1 : numG g s = n / 256 % 256 ^ s := by omega
      have h2 : (g s).toNat = n % 256 := by omega
      intro i hi
      cases i with
      | zero => rw [Nat.pow_zero, Nat.div_one]; exact h2
      | succ i =>
        have h3 := ih.1 h1 i (by omega)
        rw [Nat.pow_succ, Nat.mul_comm, ← Nat.div_div_eq_div_mul, show s + 1 - 1 - (i + 1) = s - 1 - i by omega]
        exact h3
    · intro h
      have h1 := ih.2 (fun i hi => by
        have h3 := h (i + 1) (by omega)
        rw [Nat.pow_succ, Nat.mul_comm, ← Nat.div_div_eq_div_mul, show s + 1 - 1 - (i + 1) = s - 1 - i by omega] at h3
        exact h3)
      have h2 := h 0 (by omega)
      rw [Nat.pow_zero, Nat.div_one, show s + 1 - 1 - 0 = s by omega] at h2
      omega
theorem form_iff (f : Nat → BitVec 8) (m s : Nat) (N : Int) (h0 : 0 ≤ N) (hs : s ≤ m) : ((numG (fun i => f (m - s + i)) s : Nat) : Int) = N % 2 ^ (8 * s) ↔ ∀ i, i < s → n8 (f (m - 1 - i)) = N / 2 ^ (8 * i) % 256 := by
  obtain ⟨n, rfl⟩ := Int.eq_ofNat_of_zero_le h0
  have hp : ∀ j : Nat, (2 : Int) ^ (8 * j) = ((256 ^ j : Nat) : Int) := fun j => by rw [Int.pow_mul]; simp
  rw [hp, ← Int.natCast_emod]
  constructor
  · intro h i hi
    have h1 := (num_iff _ s n).1 (Int.ofNat_inj.1 h) i hi
    rw [hp, n8_nat, show m - 1 - i = m - s + (s - 1 - i) by omega, h1]
    simp
  · intro h
    refine congrArg _ ((num_iff _ s n).2 fun i hi => ?_)
    have h1 := h i hi
    rw [hp, n8_nat, show m - 1 - i = m - s + (s - 1 - i) by omega] at h1
    exact Int.ofNat_inj.1 (by rw [h1]; simp)
set_option maxHeartbeats 4000000 in
theorem docSeal_arg (K I M : ByteArray) (k i mm : Nat) (hK : K.size = k) (hI : I.size = i) (hM : M.size = mm) (S N : Int) (hS0 : 0 - 9223372036854775808 ≤ S) (hS1 : S ≤ 9223372036854775807) (H C : ByteArray) (m : Nat) (hH : H.size = m) (hm : m ≤ 4000) (w : World) (hbad : badArg k i mm m S N) :
    Calls Tryd.prog 10 #[.agg (kysC K I M), .string H, .int .i64 S, .int .i64 N, .string C] w fun e w' => e = .returned (.tuple #[.string ⟨#[]⟩, .int .i64 1]) ∧ Below w.heap.size w w' := by
  have R0 : (w.alloc (.cells (kysC K I M) 23)).heap[w.heap.size]? = some (.cells (kysC K I M) 23 (0, 0)) := heap_alloc_last _ _
  have hb1 : Below w.heap.size w (w.alloc (.cells (kysC K I M) 23)) := (Below.refl w.heap.size w).alloc (Nat.le_refl _) _
  have HB := Lib.hid hb1
  have WH := Lib.hid (right_any K I M k i mm hK hI hM (w.alloc (.cells (kysC K I M) 23)))
  obtain ⟨c0, c1, c2⟩ := kys_cells R0
  have BAD := Lib.hid hbad
  clear hbad hb1 R0 hK hI hM
  unfold kysC at *
  by_cases h1 : S < 1
  · go_enter Tryd.func10, Tryd.ntmps10
    go_wp2_with fail
    go_ret2
    exact ⟨rfl, HB.out⟩
  by_cases h2 : S > 4
  · go_enter Tryd.func10, Tryd.ntmps10
    go_wp2_with fail
    go_ret2
    exact ⟨rfl, HB.out⟩
  by_cases h3 : N < 0
  · go_enter Tryd.func10, Tryd.ntmps10
    go_wp2_with fail
    go_ret2
    exact ⟨rfl, HB.out⟩
  by_cases h3' : N > 4611686018427387903
  · go_enter Tryd.func10, Tryd.ntmps10
    go_wp2_with fail
    go_ret2
    exact ⟨rfl, HB.out⟩
  by_cases h4 : k = 16 ∧ i = 12 ∧ mm = 16
  · have WH2 := Lib.hid (by have := WH.out; rw [decide_eq_true h4] at this; exact this)
    have h5 : (m : Int) < S + 1 := by
      rcases BAD.out with h | h | h | h | h
      · omega
      · omega
      · omega
      · exact absurd h4 h
      · exact h
    clear BAD WH h4
    go_enter Tryd.func10, Tryd.ntmps10
    go_wp2_with (go_at_call 21; refine WH2.out.mono ?_; rintro e w1 ⟨rfl, hb⟩; have B1 := Lib.hid (HB.out.trans (hb.mono HB.out.size)); clear hb)
    go_ret2
    exact ⟨rfl, B1.out⟩
  · have WH2 := Lib.hid (by have := WH.out; rw [decide_eq_false h4] at this; exact this)
    clear BAD WH h4
    go_enter Tryd.func10, Tryd.ntmps10
    go_wp2_with (go_at_call 21; refine WH2.out.mono ?_; rintro e w1 ⟨rfl, hb⟩; have B1 := Lib.hid (HB.out.trans (hb.mono HB.out.size)); clear hb)
    go_ret2
    exact ⟨rfl, B1.out⟩
/-- A packet's bytes: the head, what is carried, sealed, its first byte and number hidden. -/
def packF (k iv mk f xs : Nat → BitVec 8) (N : Int) (m s n : Nat) : Nat → BitVec 8 := hidP mk (joinb f m (sealF (sched k) (hOf (sched k)) (nonTo iv N 8) f m xs n)) (m - s) s
def sealR (k iv mk f xs : Nat → BitVec 8) (N : Int) (m s n : Nat) (T : ByteArray) (r : Int) : Prop :=
  (¬ formOk f m s N ∧ r = 2 ∧ T = ⟨#[]⟩) ∨ (formOk f m s N ∧ n + s < 4 ∧ r = 3 ∧ T = ⟨#[]⟩) ∨ (formOk f m s N ∧ ¬ n + s < 4 ∧ 65000 < n ∧ r = 5 ∧ T = ⟨#[]⟩) ∨ (formOk f m s N ∧ ¬ n + s < 4 ∧ ¬ 65000 < n ∧ r = 0 ∧ T = strOf (packF k iv mk f xs N m s n) (m + (n + 16)))
set_option maxHeartbeats 16000000 in
theorem docSeal_ok (k iv mk f xs : Nat → BitVec 8) (N : Int) (h0 : 0 ≤ N) (h1 : N ≤ 4611686018427387903) (s m n : Nat) (hs1 : 1 ≤ s) (hs4 : s ≤ 4) (hm : m ≤ 4000) (hsm : s + 1 ≤ m) (hn : n ≤ 1000000) (w : World) (T : ByteArray) (r : Int) (hr : sealR k iv mk f xs N m s n T r) :
    Calls Tryd.prog 10 #[.agg (kysC (strOf k 16) (strOf iv 12) (strOf mk 16)), .string (strOf f m), .int .i64 (s : Int), .int .i64 N, .string (strOf xs n)] w fun e w' => e = .returned (.tuple #[.string T, .int .i64 r]) ∧ Below w.heap.size w w' := by
  have R0 : (w.alloc (.cells (kysC (strOf k 16) (strOf iv 12) (strOf mk 16)) 23)).heap[w.heap.size]? = some (.cells (kysC (strOf k 16) (strOf iv 12) (strOf mk 16)) 23 (0, 0)) := heap_alloc_last _ _
  have hb1 : Below w.heap.size w (w.alloc (.cells (kysC (strOf k 16) (strOf iv 12) (strOf mk 16)) 23)) := (Below.refl w.heap.size w).alloc (Nat.le_refl _) _
  have HB := Lib.hid hb1
  have WH := Lib.hid (by have := right_any (strOf k 16) (strOf iv 12) (strOf mk 16) 16 12 16 (strOf_size _ _) (strOf_size _ _) (strOf_size _ _) (w.alloc (.cells (kysC (strOf k 16) (strOf iv 12) (strOf mk 16)) 23)); rw [decide_eq_true (show 16 = 16 ∧ 12 = 12 ∧ 16 = 16 from ⟨rfl, rfl, rfl⟩)] at this; exact this)
  have HL := Lib.hid (show w.heap.size < (w.alloc (.cells (kysC (strOf k 16) (strOf iv 12) (strOf mk 16)) 23)).heap.size by simp)
  have CC := Lib.hid (kys_cells R0)
  have NO := Lib.hid (fun w' => rnonce_any iv N h0 h1 w')
  have SE := Lib.hid (fun w' => sealD_ok k (nonTo iv N 8) f xs m n w' (by omega) (by omega))
  have MK := Lib.hid (fun (hns : ¬ n + s < 4) (hn5 : ¬ 65000 < n) (w' : World) => by
    have h := masked_any mk (joinb f m (sealF (sched k) (hOf (sched k)) (nonTo iv N 8) f m xs n)) (strOf k 16) (strOf iv 12) (m + (n + 16)) (m - s) s hs4 (by omega) (by omega) (by omega) w'
    rw [show ((m - s : Nat) : Int) = (m : Int) - (s : Int) by omega, show hidP mk (joinb f m (sealF (sched k) (hOf (sched k)) (nonTo iv N 8) f m xs n)) (m - s) s = packF k iv mk f xs N m s n from rfl] at h
    exact h)
  have ej := joined f (sealF (sched k) (hOf (sched k)) (nonTo iv N 8) f m xs n) m (n + 16)
  have hsz := strOf_size f m
  have hsz2 := strOf_size xs n
  have hsz3 := strOf_size (sealF (sched k) (hOf (sched k)) (nonTo iv N 8) f m xs n) (n + 16)
  have i0 := fun w' => run_at_str f m 0 (by omega) w'
  have IK := Lib.hid (fun (j : Nat) (hj : j < m) (w' : World) => run_at_str f m j hj w')
  have FI := Lib.hid (form_iff f m s N h0 (by omega))
  unfold sealR formOk at hr
  have HR := Lib.hid hr
  have q1 : ¬ 9223372036854775807 < m + (n + 16) := by omega
  have hsI : ¬ (s : Int) < 1 := by omega
  have hsI4 : ¬ (4 : Int) < (s : Int) := by omega
  have hmI : ¬ (m : Int) < (s : Int) + 1 := by omega
  have hq4 : n8 (f 0) % 4 = (((f 0).toNat % 4 : Nat) : Int) := by rw [n8_nat]; omega
  have hq5 : (wrap64 (n8 (f 0))).tmod 4 = (((f 0).toNat % 4 : Nat) : Int) := by
    have h8 := (f 0).isLt
    rw [show wrap64 (n8 (f 0)) = n8 (f 0) by rw [n8_nat]; unfold wrap64; omega, Int.tmod_eq_emod_of_nonneg (by rw [n8_nat]; omega)]; exact hq4
  have hN0 : ¬ N < 0 := by omega
  have hN1 : ¬ 4611686018427387903 < N := by omega
  clear hq4
  generalize hQ : (f 0).toNat % 4 = q at *
  generalize numG (fun i => f (m - s + i)) s = G at *
  clear hr hb1 R0 hQ
  generalize strOf (joinb f m (sealF (sched k) (hOf (sched k)) (nonTo iv N 8) f m xs n)) (m + (n + 16)) = SJ at *
  generalize strOf (sealF (sched k) (hOf (sched k)) (nonTo iv N 8) f m xs n) (n + 16) = SB at *
  generalize strOf (packF k iv mk f xs N m s n) (m + (n + 16)) = SP at *
  generalize strOf (nonTo iv N 8) 12 = SN at *
  unfold kysC at *
  generalize strOf k 16 = SK at *
  generalize strOf iv 12 = SI at *
  generalize strOf mk 16 = SM at *
  generalize strOf f m = SH at *
  generalize strOf xs n = SC at *
  simp only [Int.ofNat_zero, Int.natCast_zero] at i0
  obtain ⟨c0, c1, c2⟩ := CC.out
  by_cases hqs : (q : Int) = (s : Int) - 1
  · have hqb : ((q : Int) != (s : Int) - 1) = false := by rw [hqs]; exact bne_self_eq_false _
    go_enter Tryd.func10, Tryd.ntmps10
    go_wp2_with (go_at_call 21; refine WH.out.mono ?_; rintro e w1 ⟨rfl, hb⟩; have B1 := Lib.hid (HB.out.trans (hb.mono HB.out.size)); have L1 := Lib.hid (Nat.lt_of_lt_of_le HL.out hb.size); have K1 := Lib.hid (fun (i : Nat) => hb.cell (p := ⟨w.heap.size, i, none⟩) HL.out); clear hb)
    clear WH HB HL
    go_loopw [13] (fun s13 wr => ∃ i : Nat, i ≤ s ∧ s13 = .int .i64 (i : Int) ∧ (∀ j, j < i → n8 (f (m - 1 - j)) = N / 2 ^ (8 * j) % 256) ∧ Below w1.heap.size w1 wr) (fun s13 _ => s - (intOf s13).toNat)
    case atStart => exact ⟨0, by omega, rfl, fun j hj => by omega, Below.refl _ _⟩
    case round =>
      obtain ⟨i, hi, rfl, hag, hbr⟩ := hrel
      have AG := Lib.hid hag
      have BR := Lib.hid hbr
      clear hag hbr
      by_cases hlt : i < s
      · have hlI : (i : Int) < (s : Int) := by omega
        have ik := IK.out (m - 1 - i) (by omega)
        have him : (m : Int) - 1 - (i : Int) = ((m - 1 - i : Nat) : Int) := by omega
        by_cases heq : n8 (f (m - 1 - i)) = N / 2 ^ (8 * i) % 256
        · have hbe : (n8 (f (m - 1 - i)) != N / 2 ^ (8 * i) % 256) = false := by rw [heq]; exact bne_self_eq_false _
          have HE := Lib.hid heq
          clear heq
          go_upto_region 9 with (fail)
          go_region
          go_wp2_with fail
          go_roundw
          case rel => exact ⟨i + 1, by omega, by go_num, fun j hj => by
            by_cases hji : j < i
            · exact AG.out j hji
            · obtain rfl : j = i := by omega
              exact HE.out, BR.out.drew⟩
          case measure => (simp [intOf] <;> omega)
        · have hbe : (n8 (f (m - 1 - i)) != N / 2 ^ (8 * i) % 256) = true := bne_iff_ne.2 heq
          obtain ⟨rfl, rfl⟩ : r = 2 ∧ T = ⟨#[]⟩ := by
            have hno : ¬ (G : Int) = N % 2 ^ (8 * s) := fun h => heq (FI.out.1 h i hlt)
            rcases HR.out with h | h | h | h
            · exact h.2
            · exact absurd h.1.2 hno
            · exact absurd h.1.2 hno
            · exact absurd h.1.2 hno
          clear heq
          go_upto_region 9 with (fail)
          go_region
          go_wp2_with fail
          go_ret2
          exact ⟨rfl, (B1.out.trans (BR.out.mono B1.out.size)).drew⟩
      · obtain rfl : i = s := by omega
        have hN : ¬ ((i : Int) < (i : Int)) := by omega
        have hG := FI.out.2 AG.out
        have hnot : ¬ ¬ (q + 1 = i ∧ (G : Int) = N % 2 ^ (8 * i)) := fun h => h ⟨by omega, hG⟩
        by_cases hns : n + i < 4
        · obtain ⟨rfl, rfl⟩ : r = 3 ∧ T = ⟨#[]⟩ := by
            rcases HR.out with h | h | h | h
            · exact absurd h.1 hnot
            · exact h.2.2
            · exact absurd hns h.2.1
            · exact absurd hns h.2.1
          have hnI : (n : Int) < 4 - (i : Int) := by omega
          clear hnot hG
          go_wp2_with fail
          go_ret2
          exact ⟨rfl, B1.out.trans (BR.out.mono B1.out.size)⟩
        · have hnI : ¬ (n : Int) < 4 - (i : Int) := by omega
          by_cases hn5 : 65000 < n
          · obtain ⟨rfl, rfl⟩ : r = 5 ∧ T = ⟨#[]⟩ := by
              rcases HR.out with h | h | h | h
              · exact absurd h.1 hnot
              · exact absurd h.2.1 hns
              · exact h.2.2.2
              · exact absurd hn5 h.2.2.1
            have hnI5 : (65000 : Int) < (n : Int) := by omega
            clear hnot hG
            go_wp2_with fail
            go_ret2
            exact ⟨rfl, B1.out.trans (BR.out.mono B1.out.size)⟩
          · obtain ⟨rfl, rfl⟩ : r = 0 ∧ T = SP := by
              rcases HR.out with h | h | h | h
              · exact absurd h.1 hnot
              · exact absurd h.2.1 hns
              · exact absurd h.2.2.1 hn5
              · exact h.2.2.2
            have hnI5 : ¬ (65000 : Int) < (n : Int) := by omega
            have MM := Lib.hid (MK.out hns hn5)
            have LR := Lib.hid (Nat.lt_of_lt_of_le L1.out BR.out.size)
            have CR := Lib.hid (show wr.cell? ⟨w.heap.size, 0, none⟩ = some (.string SK) ∧ wr.cell? ⟨w.heap.size, 1, none⟩ = some (.string SI) ∧ wr.cell? ⟨w.heap.size, 2, none⟩ = some (.string SM) from
              ⟨((BR.out.cell (p := ⟨w.heap.size, 0, none⟩) L1.out).trans (K1.out 0)).trans CC.out.1, ((BR.out.cell (p := ⟨w.heap.size, 1, none⟩) L1.out).trans (K1.out 1)).trans CC.out.2.1, ((BR.out.cell (p := ⟨w.heap.size, 2, none⟩) L1.out).trans (K1.out 2)).trans CC.out.2.2⟩)
            have BB := Lib.hid (B1.out.trans (BR.out.mono B1.out.size))
            clear hnot hG MK AG FI IK B1 BR K1 L1 CC c0 c1 c2
            go_upto_region 15 with (fail)
            refine region_class1 13 (fun w' => Below wr.heap.size wr w') mixedOrders (by kernel_rfl) (Below.refl _ _).drew rfl ?_
            refine wpQuiet_take (by rfl) (fun K hK => ⟨.pointer (some ⟨w.heap.size, 0, none⟩), fun w2' hw2 => ?_, hK _ ?_⟩)
            · clear hw2; go_simp
            clear hK K
            simp only [Act.put, List.setIfInBounds_toArray, List.set_cons_succ, List.set_cons_zero]
            refine wpQuiet_take (by rfl) (fun K hK => ⟨.string SK, fun w2' hw2 => ?_, hK _ ?_⟩)
            · have hc := (hw2.cell (p := ⟨w.heap.size, 0, none⟩) LR.out).trans CR.out.1
              clear hw2
              go_simp
            clear hK K
            simp only [Act.put, List.setIfInBounds_toArray, List.set_cons_succ, List.set_cons_zero]
            refine wpQuiet_take (by rfl) (fun K hK => ⟨.pointer (some ⟨w.heap.size, 1, none⟩), fun w2' hw2 => ?_, hK _ ?_⟩)
            · clear hw2; go_simp
            clear hK K
            simp only [Act.put, List.setIfInBounds_toArray, List.set_cons_succ, List.set_cons_zero]
            refine wpQuiet_take (by rfl) (fun K hK => ⟨.string SI, fun w2' hw2 => ?_, hK _ ?_⟩)
            · have hc := (hw2.cell (p := ⟨w.heap.size, 1, none⟩) LR.out).trans CR.out.2.1
              clear hw2
              go_simp
            clear hK K
            simp only [Act.put, List.setIfInBounds_toArray, List.set_cons_succ, List.set_cons_zero]
            refine wpQuiet_take (by rfl) (fun K hK => ⟨.int .i64 N, fun w2' hw2 => ?_, hK _ ?_⟩)
            · clear hw2; go_simp
            clear hK K
            simp only [Act.put, List.setIfInBounds_toArray, List.set_cons_succ, List.set_cons_zero]
            refine wpQuiet_take (by rfl) (fun K hK => ⟨.string SN, fun w2' hw2 => ?_, hK _ ?_⟩)
            · go_simp
              go_at_call 23
              refine (NO.out w2').mono ?_
              rintro e w5 ⟨rfl, hb5⟩
              exact ⟨rfl, hw2.trans (hb5.mono hw2.size)⟩
            clear hK K
            simp only [Act.put, List.setIfInBounds_toArray, List.set_cons_succ, List.set_cons_zero]
            refine wpQuiet_take (by rfl) (fun K hK => ⟨.string SH, fun w2' hw2 => ?_, hK _ ?_⟩)
            · clear hw2; go_simp
            clear hK K
            simp only [Act.put, List.setIfInBounds_toArray, List.set_cons_succ, List.set_cons_zero]
            refine wpQuiet_take (by rfl) (fun K hK => ⟨.string SC, fun w2' hw2 => ?_, hK _ ?_⟩)
            · clear hw2; go_simp
            clear hK K
            simp only [Act.put, List.setIfInBounds_toArray, List.set_cons_succ, List.set_cons_zero]
            refine wpQuiet_take (by rfl) (fun K hK => ⟨.tuple #[.string SB, .int .i64 0], fun w2' hw2 => ?_, hK _ ?_⟩)
            · go_simp
              go_at_call 22
              refine (SE.out w2').mono ?_
              rintro e w5 ⟨rfl, hb5⟩
              exact ⟨rfl, hw2.trans (hb5.mono hw2.size)⟩
            clear hK K
            simp only [Act.put, List.setIfInBounds_toArray, List.set_cons_succ, List.set_cons_zero]
            refine wpQuiet_take (by rfl) (fun K hK => ⟨.tuple #[.string SB, .int .i64 0], fun w2' hw2 => ?_, hK _ ?_⟩)
            · clear hw2; go_simp
            clear hK K
            simp only [Act.put, List.setIfInBounds_toArray, List.set_cons_succ, List.set_cons_zero]
            refine wpQuiet_take (by rfl) (fun K hK => ⟨.string SB, fun w2' hw2 => ?_, hK _ ?_⟩)
            · clear hw2; go_simp
            clear hK K
            simp only [Act.put, List.setIfInBounds_toArray, List.set_cons_succ, List.set_cons_zero]
            refine wpQuiet_take (by rfl) (fun K hK => ⟨.int .i64 0, fun w2' hw2 => ?_, hK _ ?_⟩)
            · clear hw2; go_simp
            clear hK K
            simp only [Act.put, List.setIfInBounds_toArray, List.set_cons_succ, List.set_cons_zero]
            refine wpQuiet_take (by rfl) (fun K hK => ⟨.string SB, fun w2' hw2 => ?_, hK _ ?_⟩)
            · clear hw2; go_simp
            clear hK K
            simp only [Act.put, List.setIfInBounds_toArray, List.set_cons_succ, List.set_cons_zero]
            refine wpQuiet_take0 ?_
            intro w6 hb6
            have d0 := (hb6.cell (p := ⟨w.heap.size, 0, none⟩) LR.out).trans CR.out.1
            have d1 := (hb6.cell (p := ⟨w.heap.size, 1, none⟩) LR.out).trans CR.out.2.1
            have d2 := (hb6.cell (p := ⟨w.heap.size, 2, none⟩) LR.out).trans CR.out.2.2
            have B6 := Lib.hid (BB.out.trans (hb6.mono BB.out.size))
            clear hb6 BB NO SE
            go_wp2_with (go_at_call 24; refine (MM.out _).mono ?_; rintro e w7 ⟨rfl, hb⟩; have B7 := Lib.hid (B6.out.trans (hb.mono B6.out.size)); clear hb)
            go_ret2
            exact ⟨rfl, B7.out⟩
  · have hqb : ((q : Int) != (s : Int) - 1) = true := bne_iff_ne.2 hqs
    obtain ⟨rfl, rfl⟩ : r = 2 ∧ T = ⟨#[]⟩ := by
      rcases HR.out with h | h | h | h
      · exact h.2
      · omega
      · omega
      · omega
    clear HR
    go_enter Tryd.func10, Tryd.ntmps10
    go_wp2_with (go_at_call 21; refine WH.out.mono ?_; rintro e w1 ⟨rfl, hb⟩; have B1 := Lib.hid (HB.out.trans (hb.mono HB.out.size)); clear hb)
    go_ret2
    exact ⟨rfl, B1.out⟩
end Go.Proofs.YtjbpjoondmcnlabDoor
namespace Go.Proofs.YtjbpjoondmcnlabDoor
open Go Go.RowKit Go.BigFrame
set_option linter.unusedSimpArgs false
set_option linter.unusedVariables false
set_option maxRecDepth 100000
/-- A row of one's own bytes within its block, its end marked or not. -/
def RowAt (w : World) (g e n : Nat) (f : Nat → BitVec 8) : Prop := ∃ (cur : Array Value) (fr : Nat × Nat), w.heap[g]? = some (.cells cur 5 fr) ∧ (fr.2 = 0 ∨ cur.size ≤ fr.1) ∧ e + n ≤ cur.size ∧ ∀ i, i < n → cur[e + i]? = some (.int .u8 (n8 (f i)))
theorem RowAt.lt {w : World} {g e n : Nat} {f : Nat → BitVec 8} (h : RowAt w g e n f) : g < w.heap.size := by
  obtain ⟨cur, fr, h1, _⟩ := h
  exact lt_of_heap h1
theorem RowAt.at {w : World} {g e n : Nat} {f : Nat → BitVec 8} (h : RowAt w g e n f) (i : Nat) (hi : i < n) : w.cell? ⟨g, e + i, none⟩ = some (.int .u8 (n8 (f i))) := by
  obtain ⟨cur, fr, h1, _, _, h4⟩ := h
  rw [cell_of_row _ _ _ _ _ _ h1]; exact h4 i hi
theorem RowAt.free {w : World} {g e n : Nat} {f : Nat → BitVec 8} (h : RowAt w g e n f) (i : Nat) (hi : i < n) : w.frozen? ⟨g, e + i, none⟩ = false := by
  obtain ⟨cur, fr, h1, h2, h3, _⟩ := h
  exact frozenF h1 h2 (by omega)
theorem RowAt.set {w : World} {g e n : Nat} {f : Nat → BitVec 8} (h : RowAt w g e n f) (j : Nat) (x : BitVec 8) : RowAt (w.setCell ⟨g, e + j, none⟩ (.int .u8 (n8 x))) g e n (updb f j x) := by
  obtain ⟨cur, fr, h1, h2, h3, h4⟩ := h
  obtain ⟨cs', e1, e2, e3⟩ := setCells_rowF g 5 fr [.int .u8 (n8 x)] (e + j) w cur h1
  refine ⟨cs', fr, e1, by rw [e2]; exact h2, by rw [e2]; exact h3, fun i hi => ?_⟩
  rw [e3]
  unfold updb
  by_cases hij : i = j
  · subst hij
    rw [if_pos ⟨by omega, by simp, by omega⟩, if_pos rfl]; simp
  · rw [if_neg (by simp; omega), if_neg hij]; exact h4 i hi
theorem RowAt.congr {w : World} {g e n : Nat} {f f' : Nat → BitVec 8} (h : RowAt w g e n f) (hf : ∀ i, i < n → f i = f' i) : RowAt w g e n f' := by
  obtain ⟨cur, fr, h1, h2, h3, h4⟩ := h
  exact ⟨cur, fr, h1, h2, h3, fun i hi => by rw [h4 i hi, hf i hi]⟩
theorem RowAt.later {w w' : World} {g e n : Nat} {f : Nat → BitVec 8} (h : RowAt w g e n f) (hb : Below w.heap.size w w') : RowAt w' g e n f := by
  obtain ⟨cur, fr, h1, r⟩ := h
  exact ⟨cur, fr, (hb.block g (lt_of_heap h1)).trans h1, r⟩
theorem RowAt.bytesIn {w : World} {g e n : Nat} {f : Nat → BitVec 8} (h : RowAt w g e n f) (hn : n ≤ maxLen) : BytesIn w (some ⟨g, e, none⟩) n f := ⟨hn, .inr ⟨g, e, rfl, h.lt, fun i hi => h.at i hi⟩⟩
theorem OwnAt.rowAt {B n : Nat} {v : Value} {f : Nat → BitVec 8} {w : World} (h : OwnAt B v n f w) (hn : 0 < n) : ∃ g e c, v = .slice (some ⟨g, e, none⟩) n c ∧ B ≤ g ∧ n ≤ c ∧ c ≤ maxLen ∧ RowAt w g e n f := by
  rcases h.row with ⟨_, h0⟩ | ⟨g, e, cap, cur, rfl, h2, h3, h4, h5, h6, h7⟩
  · omega
  · exact ⟨g, e, cap, rfl, h2, h4, h5, cur, (0, 0), h3, .inl rfl, by omega, h7⟩
set_option maxHeartbeats 8000000 in
theorem gtogetherAt (g ze o n c len : Nat) (f : Nat → BitVec 8) (a : Option Addr) (m c2 : Nat) (p : Nat → BitVec 8) (w : World) (h : RowAt w g ze len f) (ho : o + n ≤ len) (hp : BytesIn w a m p) (hnm : n ≤ m) (hne : ∀ x, a = some x → x.block ≠ g) :
    Calls Tryd.prog 32 #[.slice (some ⟨g, ze + o, none⟩) n c, .slice a m c2] w fun e w' => e = .returned (.tuple #[]) ∧ RowAt w' g ze len (togF f p o n) ∧ (∀ B, B ≤ g → Below B w w') ∧ ∀ k, k ≠ g → w'.heap[k]? = w.heap[k]? := by
  have H := Lib.hid h
  have HP := Lib.hid hp
  have HN := Lib.hid hne
  clear h hp hne
  go_enter Tryd.func32, Tryd.ntmps32
  go_wp2_with fail
  go_loopw [4, 7] (fun _ s7 wr => ∃ k : Nat, k ≤ n ∧ s7 = .int .i64 (k : Int) ∧ RowAt wr g ze len (togF f p o k) ∧ (∀ B, B ≤ g → Below B w wr) ∧ ∀ k, k ≠ g → wr.heap[k]? = w.heap[k]?) (fun _ s7 _ => n - (intOf s7).toNat)
  case atStart => exact ⟨0, by omega, rfl, H.out.congr (fun i hi => by unfold togF; rw [if_neg (by omega)]), fun B _ => Below.refl _ _, fun _ _ => rfl⟩
  case round =>
    obtain ⟨k, hk, rfl, rz, bel, oth⟩ := hrel
    have BEL := Lib.hid bel
    have RZ := Lib.hid rz
    have OT := Lib.hid oth
    clear bel rz oth
    by_cases hlt : k < n
    · have hlI : (k : Int) < (n : Int) := by omega
      have hmI : (k : Int) < (m : Int) := by omega
      obtain ⟨_, h0 | ⟨b, ob, rfl, hb, hc⟩⟩ := HP.out
      · omega
      have hbg : b ≠ g := HN.out _ rfl
      have k1 : wr.cell? ⟨b, ob + k, none⟩ = some (.int .u8 (n8 (p k))) := by
        have h2 := hc k (by omega)
        unfold World.cell? at h2 ⊢
        simp only [OT.out b hbg]
        exact h2
      have c1 := RZ.out.at (o + k) (by omega)
      have f1 := RZ.out.free (o + k) (by omega)
      have hx : togF f p o k (o + k) = f (o + k) := by unfold togF; rw [if_neg (by omega)]
      rw [hx] at c1
      rw [← Nat.add_assoc] at c1 f1
      clear hc
      go_upto_region 3 with (fail)
      go_region
      go_wp2_with fail
      have hml := HP.out.1
      have hw : wrap64 ((k : Int) + 1) = ((k + 1 : Nat) : Int) := by unfold maxLen at hml; unfold wrap64; omega
      rw [hw]
      refine ⟨⟨k + 1, by omega, rfl, ?_, fun B hB => ((BEL.out B hB).setCell hB _).drew, fun j hj => (heap_setCell_other _ _ _ _ hj).trans (OT.out j hj)⟩, (by simp [intOf] <;> omega)⟩
      rw [Nat.add_assoc]
      obtain ⟨cur, fr, r⟩ := (RZ.out.set (o + k) (f (o + k) ^^^ p k)).congr (f' := togF f p o (k + 1)) (fun i hi => by
        unfold updb togF
        by_cases hij : i = o + k
        · subst hij
          rw [if_pos rfl, if_pos (by omega), show o + k - o = k by omega]
        · rw [if_neg hij]
          by_cases h2 : o ≤ i ∧ i < o + k
          · rw [if_pos h2, if_pos (by omega)]
          · rw [if_neg h2, if_neg (by omega)])
      exact ⟨cur, fr, r⟩
    · obtain rfl : k = n := by omega
      have hN : ¬ ((k : Int) < (k : Int)) := by omega
      go_wp2_with fail
      go_end0
      exact ⟨rfl, RZ.out, BEL.out, OT.out⟩
set_option maxHeartbeats 4000000 in
theorem seal_bad (K I M : ByteArray) (a a2 : Option Addr) (m c n c2 : Nat) (S N r : Int) (w : World) (hr : r ≠ 0)
    (SL : ∀ w', Below w.heap.size w w' → Calls Tryd.prog 25 #[.agg (kysC K I M), .slice a m c, .int .i64 S, .int .i64 N, .slice a2 n c2] w' fun e w2 => e = .returned (.int .i64 r) ∧ Below w'.heap.size w' w2) :
    Calls Tryd.prog 11 #[.agg (kysC K I M), .slice a m c, .int .i64 S, .int .i64 N, .slice a2 n c2] w fun e w' => e = .returned (.tuple #[.slice none 0 0, .int .i64 r]) ∧ Below w.heap.size w w' := by
  have R0 : (w.alloc (.cells (kysC K I M) 34)).heap[w.heap.size]? = some (.cells (kysC K I M) 34 (0, 0)) := heap_alloc_last _ _
  have hb1 : Below w.heap.size w (w.alloc (.cells (kysC K I M) 34)) := (Below.refl w.heap.size w).alloc (Nat.le_refl _) _
  have HB := Lib.hid hb1
  have HS := Lib.hid (SL _ hb1)
  obtain ⟨c0, c1, c2⟩ := kys_cells R0
  have hrb : (r != 0) = true := bne_iff_ne.2 hr
  clear hb1 R0 SL hr
  unfold kysC at *
  go_enter Tryd.func11, Tryd.ntmps11
  go_wp2_with (go_at_call 25; refine HS.out.mono ?_; rintro e w1 ⟨rfl, hb⟩; have B1 := Lib.hid (HB.out.trans (hb.mono HB.out.size)); clear hb)
  go_ret2
  exact ⟨rfl, B1.out⟩
set_option maxHeartbeats 16000000 in
theorem seal_ok (k iv mk f xs : Nat → BitVec 8) (N : Int) (h0 : 0 ≤ N) (h1 : N ≤ 4611686018427387903) (s m n : Nat) (hs1 : 1 ≤ s) (hs4 : s ≤ 4) (hm : m ≤ 4000) (hsm : s + 1 ≤ m) (hn4 : ¬ n + s < 4) (hn5 : ¬ 65000 < n) (a a2 : Option Addr) (c c2 : Nat) (hc : m ≤ c) (hcm : c ≤ maxLen) (w : World) (hf : BytesIn w a m f) (hx : BytesIn w a2 n xs)
    (SL : ∀ w', Below w.heap.size w w' → Calls Tryd.prog 25 #[.agg (kysC (strOf k 16) (strOf iv 12) (strOf mk 16)), .slice a m c, .int .i64 (s : Int), .int .i64 N, .slice a2 n c2] w' fun e w2 => e = .returned (.int .i64 0) ∧ Below w'.heap.size w' w2) :
    Calls Tryd.prog 11 #[.agg (kysC (strOf k 16) (strOf iv 12) (strOf mk 16)), .slice a m c, .int .i64 (s : Int), .int .i64 N, .slice a2 n c2] w
      fun e w' => ∃ g z c', e = .returned (.tuple #[.slice (some ⟨g, z, none⟩) (m + (n + 16)) c', .int .i64 0]) ∧ w.heap.size ≤ g ∧ m + (n + 16) ≤ c' ∧ c' ≤ maxLen ∧ RowAt w' g z (m + (n + 16)) (packF k iv mk f xs N m s n) ∧ Below w.heap.size w w' := by
  have R0 : (w.alloc (.cells (kysC (strOf k 16) (strOf iv 12) (strOf mk 16)) 34)).heap[w.heap.size]? = some (.cells (kysC (strOf k 16) (strOf iv 12) (strOf mk 16)) 34 (0, 0)) := heap_alloc_last _ _
  have hb1 : Below w.heap.size w (w.alloc (.cells (kysC (strOf k 16) (strOf iv 12) (strOf mk 16)) 34)) := (Below.refl w.heap.size w).alloc (Nat.le_refl _) _
  have HB := Lib.hid hb1
  have HL := Lib.hid (show w.heap.size < (w.alloc (.cells (kysC (strOf k 16) (strOf iv 12) (strOf mk 16)) 34)).heap.size by simp)
  have CC := Lib.hid (kys_cells R0)
  have HS := Lib.hid (SL _ hb1)
  have HF := Lib.hid hf
  have HX := Lib.hid hx
  have CV := Lib.hid (fun w' : World => conv_ownZ k 16 (by omega) w' w'.heap.size (Nat.le_refl _))
  have NO := Lib.hid (fun w' => nonce_any iv N h0 h1 w')
  have MS := Lib.hid (fun (a : Option Addr) (c' : Nat) (hc' : n + 16 + s ≤ c') (w' : World) (h : BytesIn w' a (n + 16 + s) (fun i => joinb f m (sealF (sched k) (hOf (sched k)) (nonTo iv N 8) f m xs n) (m - s + i))) => mask_any mk (fun i => joinb f m (sealF (sched k) (hOf (sched k)) (nonTo iv N 8) f m xs n) (m - s + i)) (strOf k 16) (strOf iv 12) a (n + 16 + s) c' (by omega) hc' w' h)
  clear hf hx hb1 R0 SL
  unfold packF hidP
  unfold kysC at *
  generalize strOf k 16 = SK at *
  generalize strOf iv 12 = SI at *
  generalize strOf mk 16 = SM at *
  obtain ⟨c0, c1, c2⟩ := CC.out
  go_enter Tryd.func11, Tryd.ntmps11
  go_upto_region 4 with (go_at_call 25; refine HS.out.mono ?_; rintro e w1 ⟨rfl, hb⟩; have B1 := Lib.hid (HB.out.trans (hb.mono HB.out.size)); have L1 := Lib.hid (Nat.lt_of_lt_of_le HL.out hb.size); have c1' := Lib.hid (fun (i : Nat) => hb.cell (p := ⟨w.heap.size, i, none⟩) HL.out); clear hb)
  have K1 := Lib.hid (show w1.cell? ⟨w.heap.size, 0, none⟩ = some (.string SK) ∧ w1.cell? ⟨w.heap.size, 1, none⟩ = some (.string SI) ∧ w1.cell? ⟨w.heap.size, 2, none⟩ = some (.string SM) from ⟨(c1'.out 0).trans CC.out.1, (c1'.out 1).trans CC.out.2.1, (c1'.out 2).trans CC.out.2.2⟩)
  clear c1' CC c0 c1 c2 HB HL HS
  obtain ⟨d0, d1, d2⟩ := K1.out
  obtain ⟨v2, w2, hcv, o2, b2⟩ := CV.out w1
  obtain ⟨g2, cg2, rfl, hg2, hcg2, hcm2, rz2⟩ := o2.rowZ (by omega)
  have N2 := Lib.hid (gnew_ok k g2 0 cg2 w2 (fun i hi => by rw [Nat.zero_add]; exact rz2.at i hi) rz2.lt)
  have B2 := Lib.hid (Below.trans B1.out (b2.mono B1.out.size))
  have b2' := Lib.hid b2
  clear o2 rz2 b2 CV
  go_upto_region 5 with (go_at_call 26; refine N2.out.mono ?_; rintro e w3 ⟨p, q, rfl, hp, hb, bx⟩; have b3 := Lib.hid (b2'.out.trans (hb.mono b2'.out.size)); have B3 := Lib.hid (B2.out.trans (hb.mono B2.out.size)); have BX := Lib.hid bx; clear hp hb bx)
  clear hcv d0 d1 d2 N2 b2'
  have e1 := (b3.out.cell (p := ⟨w.heap.size, 1, none⟩) L1.out).trans K1.out.2.1
  have NO3 := Lib.hid (NO.out w3)
  clear NO
  go_upto_region 8 with (first
    | (go_at_call 28; refine NO3.out.mono ?_; rintro e w4 ⟨g4, c4, rfl, hg4, hc4, hcm4, rz4, hb4⟩; have RZ4 := Lib.hid rz4; have B4' := Lib.hid hb4; clear rz4 hb4)
    | (go_at_call 27; refine (gseal_ok p q (sched k) (hOf (sched k)) (nonTo iv N 8) f xs g4 0 c4 a a2 m c n c2 w4 (BX.out.later B4'.out) (fun i hi => by rw [Nat.zero_add]; exact RZ4.out.at i hi) RZ4.out.lt (bytesIn_later HF.out (B3.out.trans (B4'.out.mono B3.out.size))) hc hcm (bytesIn_later HX.out (B3.out.trans (B4'.out.mono B3.out.size))) (by omega)).mono ?_; rintro e w5 ⟨v5, rfl, o5, hb5⟩; have O5 := Lib.hid o5; have B5' := Lib.hid (B4'.out.trans (hb5.mono B4'.out.size)); clear o5 hb5))
  clear NO3 e1 RZ4 B4' hg4 hc4 hcm4
  obtain ⟨a5, c5, rfl, hc5, hm5, in5⟩ := O5.out.asBytes
  have B5 := Lib.hid (B3.out.trans (B5'.out.mono B3.out.size))
  have b5 := Lib.hid (b3.out.trans (B5'.out.mono b3.out.size))
  clear O5 B5' B3 b3 BX
  have hal : Below w5.heap.size w5 (w5.alloc (.cells #[.slice a m c, .slice a5 (n + 16) c5] 31)) := (Below.refl _ _).alloc (Nat.le_refl _) _
  have R6 : (w5.alloc (.cells #[.slice a m c, .slice a5 (n + 16) c5] 31)).heap[w5.heap.size]? = some (.cells #[.slice a m c, .slice a5 (n + 16) c5] 31 (0, 0)) := heap_alloc_last _ _
  have hf6 := bytesIn_later HF.out (B5.out.trans (hal.mono B5.out.size))
  have hb6 := bytesIn_later in5 hal
  have e2 : lenTo (fun k => if k = 0 then m else n + 16) 2 = m + (n + 16) := by show 0 + m + (n + 16) = _; omega
  have CAT := concat_any w5.heap.size 0 2 2 (fun k => if k = 0 then a else a5) (fun k => if k = 0 then m else n + 16) (fun k => if k = 0 then c else c5) (fun j => if j = 0 then f else (sealF (sched k) (hOf (sched k)) (nonTo iv N 8) f m xs n)) (w5.alloc (.cells #[.slice a m c, .slice a5 (n + 16) c5] 31)) (by omega)
    (by rw [e2]; omega) (by rw [e2]; omega) (fun k hk => by
      rw [Nat.zero_add, cell_of_row _ _ _ _ _ _ R6]
      rcases (show k = 0 ∨ k = 1 by omega) with rfl | rfl <;> rfl) (by simp) (fun k hk => by
      rcases (show k = 0 ∨ k = 1 by omega) with rfl | rfl
      · exact hf6
      · exact hb6)
  rw [e2] at CAT
  have CAT2 := Lib.hid CAT
  have HAL := Lib.hid hal
  clear CAT R6 hf6 hb6 hal in5
  go_upto_region 11 with (go_at_call 29; refine CAT2.out.mono ?_; rintro e w7 ⟨v7, rfl, o7, hb7⟩; have b7 := Lib.hid (HAL.out.trans (hb7.mono HAL.out.size)); have O7 := Lib.hid o7; clear o7 hb7)
  clear CAT2
  have O7' := (O7.out.congr (g := joinb f m (sealF (sched k) (hOf (sched k)) (nonTo iv N 8) f m xs n)) (fun i hi => by
      show joinb (joinb (fun _ => 0#8) 0 f) (0 + m) (sealF (sched k) (hOf (sched k)) (nonTo iv N 8) f m xs n) i = joinb f m (sealF (sched k) (hOf (sched k)) (nonTo iv N 8) f m xs n) i
      unfold joinb
      simp))
  obtain ⟨g7, z7, c7, rfl, hg7, hc7, hcm7, ra7⟩ := O7'.rowAt (by omega)
  have HG := Lib.hid (show w.heap.size ≤ g7 from Nat.le_trans (Nat.le_trans B5.out.size HAL.out.size) hg7)
  obtain ⟨J, hJ⟩ : ∃ J, joinb f m (sealF (sched k) (hOf (sched k)) (nonTo iv N 8) f m xs n) = J := ⟨_, rfl⟩
  rw [hJ] at ra7 MS
  have HJ := Lib.hid hJ
  have RA := Lib.hid ra7
  have B7 := Lib.hid (B5.out.trans (b7.out.mono B5.out.size))
  have b57 := b5.out.trans (b7.out.mono b5.out.size)
  have L7 := Lib.hid (Nat.lt_of_lt_of_le L1.out b57.size)
  have C7 := Lib.hid (show w7.cell? ⟨w.heap.size, 0, none⟩ = some (.string SK) ∧ w7.cell? ⟨w.heap.size, 1, none⟩ = some (.string SI) ∧ w7.cell? ⟨w.heap.size, 2, none⟩ = some (.string SM) from
    ⟨(b57.cell (p := ⟨w.heap.size, 0, none⟩) L1.out).trans K1.out.1, (b57.cell (p := ⟨w.heap.size, 1, none⟩) L1.out).trans K1.out.2.1, (b57.cell (p := ⟨w.heap.size, 2, none⟩) L1.out).trans K1.out.2.2⟩)
  clear O7 O7' ra7 hJ B5 b5 b7 b57 K1 L1 HAL HF HX
  go_upto_region 12 with (fail)
  have e3 : m + (n + 16) - (m - s) = n + 16 + s := by omega
  have F64 := Lib.hid (fun w' => run_from_at w' g7 z7 (m - s) (m + (n + 16)) c7 ((m : Int) - (s : Int)) (by omega) (by omega) hc7)
  rw [e3] at F64
  have hwm : IntKind.wrap .i64 ((m : Int) - (s : Int)) = (m : Int) - (s : Int) := by simp only [IntKind.wrap, IntKind.bits, IntKind.signed]; simp; omega
  refine region_anyM mixedOrders ?_
  refine anyM_take (i := 0) (oi := ⟨some 61, _, _, _, _, _⟩) (v := .agg #[.string SK, .string SI, .string SM]) rfl (by kernel_rfl) (by kernel_rfl) (by kernel_rfl) (fun _ _ _ h => h) (.inl ⟨by rfl, fun w2 hw2 => ?_⟩) ?_
  · have hc0 := ((show Below w7.drew.heap.size w7.drew w2 from hw2).cell (p := ⟨w.heap.size, 0, none⟩) L7.out).trans C7.out.1
    have hc1 := ((show Below w7.drew.heap.size w7.drew w2 from hw2).cell (p := ⟨w.heap.size, 1, none⟩) L7.out).trans C7.out.2.1
    have hc2 := ((show Below w7.drew.heap.size w7.drew w2 from hw2).cell (p := ⟨w.heap.size, 2, none⟩) L7.out).trans C7.out.2.2
    clear hw2
    go_simp
  simp only [Act.put, List.setIfInBounds_toArray, List.set_cons_succ, List.set_cons_zero]
  refine anyM_take (i := 1) (oi := ⟨some 62, _, _, _, _, _⟩) (v := .slice (some ⟨g7, z7, none⟩) (m + (n + 16)) c7) rfl (by kernel_rfl) (by kernel_rfl) (by kernel_rfl) (fun _ _ _ h => h) (.inl ⟨by rfl, fun w2 hw2 => ?_⟩) ?_
  · clear hw2
    go_simp
  simp only [Act.put, List.setIfInBounds_toArray, List.set_cons_succ, List.set_cons_zero]
  refine anyM_take (i := 2) (oi := ⟨some 63, _, _, _, _, _⟩) (v := .int .i64 ((m : Int) - (s : Int))) rfl (by kernel_rfl) (by kernel_rfl) (by kernel_rfl) (fun _ _ _ h => h) (.inl ⟨by rfl, fun w2 hw2 => ?_⟩) ?_
  · clear hw2
    go_simp
  simp only [Act.put, List.setIfInBounds_toArray, List.set_cons_succ, List.set_cons_zero]
  refine anyM_take (i := 3) (oi := ⟨some 64, _, _, _, _, _⟩) (v := .slice (some ⟨g7, z7 + (m - s), none⟩) (n + 16 + s) (c7 - (m - s))) rfl (by kernel_rfl) (by kernel_rfl) (by kernel_rfl) (fun _ _ _ h => h) (.inl ⟨by rfl, fun w2 hw2 => ?_⟩) ?_
  · have hf := F64.out
    clear hw2
    go_simp
  simp only [Act.put, List.setIfInBounds_toArray, List.set_cons_succ, List.set_cons_zero]
  refine anyM_call (i := 4) (o := ⟨some 65, _, _, _, _, _⟩) 30 #[.agg #[.string SK, .string SI, .string SM], .slice (some ⟨g7, z7 + (m - s), none⟩) (n + 16 + s) (c7 - (m - s))] (by kernel_rfl) rfl (by rfl) (fun w2 => by go_simp) (fun w8 hw8 => ?_)
  have b8 : Below w7.drew.heap.size w7.drew w8 := hw8
  have RA8 := Lib.hid (RowAt.later (show RowAt w7.drew g7 z7 (m + (n + 16)) J from RA.out) b8)
  refine (MS.out (some ⟨g7, z7 + (m - s), none⟩) (c7 - (m - s)) (by omega) w8 ⟨by unfold maxLen; omega, .inr ⟨g7, z7 + (m - s), rfl, RA8.out.lt, fun i hi => by rw [Nat.add_assoc]; exact RA8.out.at (m - s + i) (by omega)⟩⟩).mono ?_
  rintro e w9 ⟨r, rfl, hr9, hm9, hb9⟩
  refine ⟨_, rfl, hb9, ?_⟩
  have hrg : g7 < r := Nat.lt_of_lt_of_le RA8.out.lt hr9
  have RA9 := Lib.hid (RA8.out.later hb9)
  have M9 := Lib.hid hm9
  have B9 := Lib.hid ((ext_below hw8 B7.out.drew B7.out.drew.size).trans (hb9.mono (ext_below hw8 B7.out.drew B7.out.drew.size).size))
  obtain ⟨M, hM⟩ : ∃ M, mskF mk (fun i => J (m - s + i)) = M := ⟨_, rfl⟩
  rw [hM] at M9
  have HM := Lib.hid hM
  clear hw8 b8 RA8 hm9 hb9 hM RA MS C7 L7 F64 hr9
  simp only [Act.put, List.setIfInBounds_toArray, List.set_cons_succ, List.set_cons_zero]
  refine anyM_take (i := 5) (oi := ⟨some 60, _, _, _, _, _⟩) (v := .tuple #[.slice (some ⟨r, 0, none⟩) 16 16, .int .i64 0]) rfl (by kernel_rfl) (by kernel_rfl) (by kernel_rfl) (fun _ _ _ h => h) (.inl ⟨by rfl, fun w2 hw2 => ?_⟩) ?_
  · clear hw2
    go_simp
  simp only [Act.put, List.setIfInBounds_toArray, List.set_cons_succ, List.set_cons_zero]
  refine anyM_take (i := 6) (oi := ⟨some 66, _, _, _, _, _⟩) (v := .slice (some ⟨r, 0, none⟩) 16 16) rfl (by kernel_rfl) (by kernel_rfl) (by kernel_rfl) (fun _ _ _ h => h) (.inl ⟨by rfl, fun w2 hw2 => ?_⟩) ?_
  · clear hw2
    go_simp
  simp only [Act.put, List.setIfInBounds_toArray, List.set_cons_succ, List.set_cons_zero]
  refine anyM_take (i := 7) (oi := ⟨some 67, _, _, _, _, _⟩) (v := .int .i64 0) rfl (by kernel_rfl) (by kernel_rfl) (by kernel_rfl) (fun _ _ _ h => h) (.inl ⟨by rfl, fun w2 hw2 => ?_⟩) ?_
  · clear hw2
    go_simp
  simp only [Act.put, List.setIfInBounds_toArray, List.set_cons_succ, List.set_cons_zero]
  refine anyM_take (i := 8) (oi := ⟨some 18, _, _, _, _, _⟩) (v := .slice (some ⟨r, 0, none⟩) 16 16) rfl (by kernel_rfl) (by kernel_rfl) (by kernel_rfl) (fun _ _ _ h => h) (.inl ⟨by rfl, fun w2 hw2 => ?_⟩) ?_
  · clear hw2
    go_simp
  simp only [Act.put, List.setIfInBounds_toArray, List.set_cons_succ, List.set_cons_zero]
  refine anyM_take (i := 9) (oi := ⟨some 14, _, _, _, _, _⟩) (v := .int .i64 0) rfl (by kernel_rfl) (by kernel_rfl) (by kernel_rfl) (fun _ _ _ h => h) (.inl ⟨by rfl, fun w2 hw2 => ?_⟩) ?_
  · clear hw2
    go_simp
  simp only [Act.put, List.setIfInBounds_toArray, List.set_cons_succ, List.set_cons_zero]
  refine anyM_done (by kernel_rfl) (fun w10 hw10 => ?_)
  have b10 : Below w9.heap.size w9 w10 := hw10
  have RB := Lib.hid (RA9.out.later b10)
  have MB := Lib.hid (bytesIn_later M9.out b10)
  have B10 := Lib.hid (B9.out.trans (b10.mono B9.out.size))
  clear hw10 b10 RA9 M9 B9
  go_upto_region 15 with (fail)
  have hr10 := RB.out.lt
  have hm0 := (MB.out).2
  have CR := Lib.hid (show (∀ i, i < 16 → w10.cell? ⟨r, i, none⟩ = some (.int .u8 (n8 (M i)))) ∧ r < w10.heap.size by
    rcases hm0 with h | ⟨b', o', e', hlt', hc'⟩
    · omega
    · injection e' with e'
      injection e' with e1 e2
      subst e1 e2
      exact ⟨fun i hi => by have := hc' i hi; rwa [Nat.zero_add] at this, hlt'⟩)
  clear hm0 MB
  have hLI : (0 : Int) < (m : Int) + ((n : Int) + 16) := by omega
  refine region_class1 9 (fun w' => Below w10.heap.size w10 w') mixedOrders (by kernel_rfl) (Below.refl _ _).drew rfl ?_
  refine wpQuiet_take (by rfl) (fun K hK => ⟨.slice (some ⟨g7, z7, none⟩) (m + (n + 16)) c7, fun w2' hw2 => ?_, hK _ ?_⟩)
  · clear hw2; go_simp
  clear hK K
  simp only [Act.put, List.setIfInBounds_toArray, List.set_cons_succ, List.set_cons_zero]
  refine wpQuiet_take (by rfl) (fun K hK => ⟨.slice (some ⟨g7, z7, none⟩) (m + (n + 16)) c7, fun w2' hw2 => ?_, hK _ ?_⟩)
  · clear hw2; go_simp
  clear hK K
  simp only [Act.put, List.setIfInBounds_toArray, List.set_cons_succ, List.set_cons_zero]
  refine wpQuiet_take (by rfl) (fun K hK => ⟨.pointer (some ⟨g7, z7, none⟩), fun w2' hw2 => ?_, hK _ ?_⟩)
  · clear hw2; go_simp
  clear hK K
  simp only [Act.put, List.setIfInBounds_toArray, List.set_cons_succ, List.set_cons_zero]
  refine wpQuiet_take (by rfl) (fun K hK => ⟨.int .u8 (n8 (J 0)), fun w2' hw2 => ?_, hK _ ?_⟩)
  · have hc := (RB.out.later hw2).at 0 (by omega)
    rw [Nat.add_zero] at hc
    clear hw2
    go_simp
  clear hK K
  simp only [Act.put, List.setIfInBounds_toArray, List.set_cons_succ, List.set_cons_zero]
  refine wpQuiet_take (by rfl) (fun K hK => ⟨.slice (some ⟨r, 0, none⟩) 16 16, fun w2' hw2 => ?_, hK _ ?_⟩)
  · clear hw2; go_simp
  clear hK K
  simp only [Act.put, List.setIfInBounds_toArray, List.set_cons_succ, List.set_cons_zero]
  refine wpQuiet_take (by rfl) (fun K hK => ⟨.pointer (some ⟨r, 0, none⟩), fun w2' hw2 => ?_, hK _ ?_⟩)
  · clear hw2; go_simp
  clear hK K
  simp only [Act.put, List.setIfInBounds_toArray, List.set_cons_succ, List.set_cons_zero]
  refine wpQuiet_take (by rfl) (fun K hK => ⟨.int .u8 (n8 (M 0)), fun w2' hw2 => ?_, hK _ ?_⟩)
  · have hc := (hw2.cell (p := ⟨r, 0, none⟩) CR.out.2).trans (CR.out.1 0 (by omega))
    clear hw2
    go_simp
  clear hK K
  simp only [Act.put, List.setIfInBounds_toArray, List.set_cons_succ, List.set_cons_zero]
  refine wpQuiet_take (by rfl) (fun K hK => ⟨.int .u8 (n8 (veilF (J 0) (M 0))), fun w2' hw2 => ?_, hK _ ?_⟩)
  · go_simp
    go_at_call 31
    refine (veiled_any (J 0) (M 0) w2').mono ?_
    rintro e w5 ⟨rfl, rfl⟩
    exact ⟨rfl, hw2⟩
  clear hK K
  simp only [Act.put, List.setIfInBounds_toArray, List.set_cons_succ, List.set_cons_zero]
  refine wpQuiet_take (by rfl) (fun K hK => ⟨.pointer (some ⟨g7, z7, none⟩), fun w2' hw2 => ?_, hK _ ?_⟩)
  · clear hw2; go_simp
  clear hK K
  simp only [Act.put, List.setIfInBounds_toArray, List.set_cons_succ, List.set_cons_zero]
  refine wpQuiet_take0 ?_
  intro w11 hb11
  have RC := Lib.hid (RB.out.later hb11)
  have cz := RC.out.at 0 (by omega)
  have fz := RC.out.free 0 (by omega)
  rw [Nat.add_zero] at cz fz
  have RD := (RC.out.set 0 (veilF (J 0) (M 0)))
  rw [Nat.add_zero] at RD
  have CR11 := (fun i hi => (hb11.cell (p := ⟨r, i, none⟩) CR.out.2).trans (CR.out.1 i hi) : ∀ i, i < 16 → w11.cell? ⟨r, i, none⟩ = some (.int .u8 (n8 (M i))))
  have hh : (w11.setCell ⟨g7, z7, none⟩ (.int .u8 (n8 (veilF (J 0) (M 0))))).heap[r]? = w11.heap[r]? := heap_setCell_other _ _ _ _ (show r ≠ g7 by omega)
  have CRD := Lib.hid (show (∀ i, i < 16 → (w11.setCell ⟨g7, z7, none⟩ (.int .u8 (n8 (veilF (J 0) (M 0))))).cell? ⟨r, i, none⟩ = some (.int .u8 (n8 (M i)))) ∧ r < (w11.setCell ⟨g7, z7, none⟩ (.int .u8 (n8 (veilF (J 0) (M 0))))).heap.size from
    ⟨fun i hi => by
      have h2 := CR11 i hi
      unfold World.cell? at h2 ⊢
      simp only [hh]
      exact h2, by
      have h3 := Nat.lt_of_lt_of_le CR.out.2 hb11.size
      simpa using h3⟩)
  have hg0 : w.heap.size ≤ g7 := by have := HG.out; omega
  have BD := Lib.hid ((B10.out.trans (hb11.mono B10.out.size)).setCell hg0 (p := ⟨g7, z7, none⟩) (.int .u8 (n8 (veilF (J 0) (M 0)))))
  have RDD := Lib.hid RD
  clear RD CR11 CR RC RB hb11 B10 hh
  go_upto_region 16 with (fail)
  generalize w11.setCell _ _ = wd at *
  have hLe : m - (m - s) = s := by omega
  have F84 := Lib.hid (fun w' => run_mid_at w' g7 z7 (m - s) m (m + (n + 16)) c7 ((m : Int) - (s : Int)) (m : Int) (by omega) rfl (by omega) (by omega) hc7)
  rw [hLe] at F84
  have F86 := Lib.hid (fun w' => run_from_at w' r 0 1 16 16 1 rfl (by omega) (by omega))
  rw [Nat.zero_add] at F86
  refine region_class1 7 (fun w' => Below wd.heap.size wd w') mixedOrders (by kernel_rfl) (Below.refl _ _).drew rfl ?_
  refine wpQuiet_take (by rfl) (fun K hK => ⟨.slice (some ⟨g7, z7, none⟩) (m + (n + 16)) c7, fun w2' hw2 => ?_, hK _ ?_⟩)
  · clear hw2; go_simp
  clear hK K
  simp only [Act.put, List.setIfInBounds_toArray, List.set_cons_succ, List.set_cons_zero]
  refine wpQuiet_take (by rfl) (fun K hK => ⟨.int .i64 ((m : Int) - (s : Int)), fun w2' hw2 => ?_, hK _ ?_⟩)
  · clear hw2; go_simp
  clear hK K
  simp only [Act.put, List.setIfInBounds_toArray, List.set_cons_succ, List.set_cons_zero]
  refine wpQuiet_take (by rfl) (fun K hK => ⟨.slice a m c, fun w2' hw2 => ?_, hK _ ?_⟩)
  · clear hw2; go_simp
  clear hK K
  simp only [Act.put, List.setIfInBounds_toArray, List.set_cons_succ, List.set_cons_zero]
  refine wpQuiet_take (by rfl) (fun K hK => ⟨.int .i64 (m : Int), fun w2' hw2 => ?_, hK _ ?_⟩)
  · clear hw2; go_simp
  clear hK K
  simp only [Act.put, List.setIfInBounds_toArray, List.set_cons_succ, List.set_cons_zero]
  refine wpQuiet_take (by rfl) (fun K hK => ⟨.slice (some ⟨g7, z7 + (m - s), none⟩) s (c7 - (m - s)), fun w2' hw2 => ?_, hK _ ?_⟩)
  · have hc := F84.out
    clear hw2
    go_simp
  clear hK K
  simp only [Act.put, List.setIfInBounds_toArray, List.set_cons_succ, List.set_cons_zero]
  refine wpQuiet_take (by rfl) (fun K hK => ⟨.slice (some ⟨r, 0, none⟩) 16 16, fun w2' hw2 => ?_, hK _ ?_⟩)
  · clear hw2; go_simp
  clear hK K
  simp only [Act.put, List.setIfInBounds_toArray, List.set_cons_succ, List.set_cons_zero]
  refine wpQuiet_take (by rfl) (fun K hK => ⟨.slice (some ⟨r, 1, none⟩) 15 15, fun w2' hw2 => ?_, hK _ ?_⟩)
  · have hc := F86.out
    clear hw2
    go_simp
  clear hK K
  simp only [Act.put, List.setIfInBounds_toArray, List.set_cons_succ, List.set_cons_zero]
  refine wpQuiet_take0 ?_
  intro w12 hb12
  have TG := Lib.hid (gtogetherAt g7 z7 (m - s) s (c7 - (m - s)) (m + (n + 16)) (updb J 0 (veilF (J 0) (M 0))) (some ⟨r, 1, none⟩) 15 15 (fun i => M (1 + i)) w12 (RDD.out.later hb12) (by omega)
    ⟨by unfold maxLen; omega, .inr ⟨r, 1, rfl, Nat.lt_of_lt_of_le CRD.out.2 hb12.size, fun i hi => (hb12.cell (p := ⟨r, 1 + i, none⟩) CRD.out.2).trans (CRD.out.1 (1 + i) (by omega))⟩⟩ (by omega) (fun x hx => by injection hx with hx; subst hx; show r ≠ g7; omega))
  have B12 := Lib.hid (BD.out.trans (hb12.mono BD.out.size))
  clear hb12 RDD CRD BD F84 F86
  go_upto_region 17 with (go_at_call 32; refine TG.out.mono ?_; rintro e w13 ⟨rfl, ra13, hb13, _⟩; have R13 := Lib.hid ra13; have B13 := Lib.hid (B12.out.trans (hb13 w.heap.size hg0)); clear ra13 hb13)
  go_wp2_with fail
  go_ret2
  have hj := HJ.out
  have hM2 := HM.out
  subst hj
  subst hM2
  exact ⟨g7, z7, c7, rfl, hg0, hc7, hcm7, R13.out, B13.out⟩
end Go.Proofs.YtjbpjoondmcnlabDoor
