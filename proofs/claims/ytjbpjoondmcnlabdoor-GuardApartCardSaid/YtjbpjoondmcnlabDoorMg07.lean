/-
  TEXTS PUT TOGETHER: Own, OpenB, ShaM, Any, ShaN.
-/
import Derived.Test.YtjbpjoondmcnlabDoorMg04
import Derived.Test.YtjbpjoondmcnlabDoorMg01
import Derived.Test.YtjbpjoondmcnlabDoorMg03
import Derived.Deep.AppendSrc
import Derived.Deep.Upon
import Derived.Deep.DeepAppendWide
import Derived.ShutString
import Derived.ProofKit
import Derived.OpenShut
import Derived.Test.YtjbpjoondmcnlabDoorMg06
import Derived.RegionTactic
import Derived.OrdersHeld
import Derived.Deep.Quiet
import Derived.StillTail
import Derived.Below
set_option maxRecDepth 100000
/-
  BYTES THAT THE CALL PUTS TOGETHER ITSELF: a slice that it owns, appended to out of whatever source.
-/
namespace Go.Proofs.YtjbpjoondmcnlabDoor
open Go Go.RowKit
/-- v owns the first n bytes of f, in rows from block B on. -/
structure Own (B : Nat) (v : Value) (n : Nat) (f : Nat → BitVec 8) (w : World) : Prop where
  row : w.ownsRow B 5 1 v n (firsts f n)
  base : B ≤ w.heap.size
/-- From w to w': v's own block may have changed, and new ones are there; v' lies in the old one or in a new one. -/
structure GrownV (w w' : World) (v v' : Value) : Prop where
  grown : w.grownBy w' v.ownBlock
  blk : v'.ownBlock = v.ownBlock ∨ ∃ k, v'.ownBlock = some k ∧ w.heap.size ≤ k
theorem Own.lt {B n k : Nat} {v : Value} {f : Nat → BitVec 8} {w : World} (h : Own B v n f w) (hk : v.ownBlock = some k) : B ≤ k ∧ k < w.heap.size := h.row.lt k hk
theorem Own.congr {B n : Nat} {v : Value} {f g : Nat → BitVec 8} {w : World} (h : Own B v n f w) (hfg : ∀ i, i < n → f i = g i) : Own B v n g w := ⟨by rw [← firsts_congr hfg]; exact h.row, h.base⟩
theorem Own.nil (B : Nat) (f : Nat → BitVec 8) (w : World) (hB : B ≤ w.heap.size) : Own B (.slice none 0 0) 0 f w := ⟨World.ownsRow_nil _ _ _ _, hB⟩
theorem Own.alloc {B n : Nat} {v : Value} {f : Nat → BitVec 8} {w : World} (h : Own B v n f w) (o : Obj) : Own B v n f (w.alloc o) := ⟨h.row.alloc o, by simp; exact Nat.le_succ_of_le h.base⟩
/-- A row of one byte that has just been laid. -/
theorem Own.made {B : Nat} (x : BitVec 8) (w : World) (hB : B ≤ w.heap.size) : Own B (.slice (some ⟨w.heap.size, 0, none⟩) 1 1) 1 (fun _ => x) (w.alloc (.cells #[.int .u8 (n8 x)] 5)) :=
  ⟨⟨rfl, .inr ⟨w.heap.size, 1, _, rfl, hB, heap_alloc_last _ _, Nat.le_refl _, by decide, rfl, rfl⟩⟩, by simp; exact Nat.le_succ_of_le hB⟩
/-- Other rows may change. -/
theorem Own.kept {B n : Nat} {v : Value} {f : Nat → BitVec 8} {w w' : World} {row : Option Nat} (h : Own B v n f w) (hg : w.grownBy w' row) (hd : v.ownBlock = none ∨ row = none ∨ v.ownBlock ≠ row) : Own B v n f w' :=
  ⟨h.row.kept hg (by
    rcases hd with h1 | h1 | h1
    · exact .inl h1
    · cases hv : v.ownBlock with
      | none => exact .inl rfl
      | some k => exact .inr (by rw [h1]; simp)
    · exact .inr h1), Nat.le_trans h.base hg.size⟩
theorem Own.later {B n : Nat} {v : Value} {f : Nat → BitVec 8} {w w' : World} (h : Own B v n f w) (hb : Below w.heap.size w w') : Own B v n f w' :=
  ⟨by
    refine ⟨h.row.1, ?_⟩
    rcases h.row.2 with h1 | ⟨g, cap, cur, rfl, hB, hg, hnc, hcm, hcs, ht⟩
    · exact .inl h1
    · exact .inr ⟨g, cap, cur, rfl, hB, by rw [hb.block _ (lt_of_heap hg)]; exact hg, hnc, hcm, hcs, ht⟩, Nat.le_trans h.base hb.size⟩
theorem GrownV.refl (w : World) (v : Value) : GrownV w w v v := ⟨⟨rfl, rfl, rfl, Nat.le_refl _, fun _ _ _ => rfl⟩, .inl rfl⟩
theorem GrownV.trans {w w1 w2 : World} {v v1 v2 : Value} (h : GrownV w w1 v v1) (h2 : GrownV w1 w2 v1 v2) : GrownV w w2 v v2 := by
  refine ⟨⟨h2.grown.os.trans h.grown.os, h2.grown.tape.trans h.grown.tape, h2.grown.output.trans h.grown.output, Nat.le_trans h.grown.size h2.grown.size, fun k hk hne => ?_⟩, ?_⟩
  · rw [h2.grown.block k (Nat.lt_of_lt_of_le hk h.grown.size) ?_, h.grown.block k hk hne]
    rcases h.blk with e | ⟨j, e, hj⟩
    · rw [e]; exact hne
    · rw [e]; intro e2; injection e2 with e2; omega
  · rcases h2.blk with e | ⟨j, e, hj⟩
    · rcases h.blk with e1 | ⟨j1, e1, hj1⟩
      · exact .inl (e.trans e1)
      · exact .inr ⟨j1, e.trans e1, hj1⟩
    · exact .inr ⟨j, e, Nat.le_trans h.grown.size hj⟩
theorem GrownV.alloc (w : World) (v : Value) (o : Obj) : GrownV w (w.alloc o) v v := ⟨World.grownBy_alloc w o _, .inl rfl⟩
/-- All that was there below B stays. -/
theorem GrownV.below {B n : Nat} {w w' : World} {v v' : Value} {f : Nat → BitVec 8} (h : GrownV w w' v v') (ho : Own B v n f w) : Below B w w' :=
  (Below.refl B w).grown h.grown ho.base (fun _ hk => (ho.lt hk).1)
/-- A block that isn't v's stays. -/
theorem GrownV.block {w w' : World} {v v' : Value} {k : Nat} (h : GrownV w w' v v') (hk : k < w.heap.size) (hne : v.ownBlock ≠ some k) : w'.heap[k]? = w.heap[k]? := h.grown.block k hk (fun e => hne e.symm)
theorem byteCells_str (g : Nat → BitVec 8) (m : Nat) : byteCells (strOf g m) = firsts g m := by
  unfold byteCells strOf strL firsts
  simp [n8_u8]
theorem src_str (g : Nat → BitVec 8) (m : Nat) (w : World) : Src Tryd.prog 1 9 (.string (strOf g m)) m (firsts g m) w := by
  have h := Src.ofString (P := Tryd.prog) w (tx := 9) (by kernel_rfl) (strOf g m)
  rw [byteCells_str, strOf_size] at h
  exact h
theorem src_bytes (g : Nat → BitVec 8) (b o m c : Nat) (w : World) (hc : ∀ i, i < m → w.cell? ⟨b, o + i, none⟩ = some (.int .u8 (n8 (g i)))) : Src Tryd.prog 1 31 (.slice (some ⟨b, o, none⟩) m c) m (firsts g m) w :=
  Src.ofSlice w under_bytes ⟨b, o, none⟩ m c (firsts g m) (by rw [firsts_len, Nat.mul_one]) (fun j u hj => by
    have hj' : j < m := by have := (List.getElem?_eq_some_iff.1 hj).1; rwa [firsts_len] at this
    have hu : u = .int .u8 (n8 (g j)) := by rw [firsts_get _ _ _ hj'] at hj; injection hj with hj; exact hj.symm
    rw [hu, show ((⟨b, o, none⟩ : Addr).add j) = ⟨b, o + j, none⟩ from by unfold Addr.add; split <;> simp_all]
    exact hc j hj') (firsts_one g m)
/-- One byte that has just been laid. -/
theorem src_one_new (w : World) (x : BitVec 8) : Src Tryd.prog 1 31 (.slice (some ⟨w.heap.size, 0, none⟩) 1 1) 1 (firsts (fun _ => x) 1) (w.alloc (.cells #[.int .u8 (n8 x)] 5)) :=
  src_bytes (fun _ => x) w.heap.size 0 1 1 _ (fun i hi => by
    obtain rfl : i = 0 := by omega
    rw [cell_of_row _ _ _ _ _ _ (heap_alloc_last w _)]
    rfl)
theorem src_none (g : Nat → BitVec 8) (c : Nat) (w : World) : Src Tryd.prog 1 31 (.slice none 0 c) 0 (firsts g 0) w := Src.ofNil w under_bytes c
theorem setCells_grown (g o : Nat) (vs : List Value) (w : World) : w.grownBy (w.setCells g o vs) (some g) := by
  have hb := setCells_below 0 g (Nat.zero_le _) vs o w w (Below.refl _ _)
  exact ⟨hb.os, hb.tape, hb.output, by rw [setCells_size]; exact Nat.le_refl _, fun k hk hne => setCells_other g k (fun e => hne (by rw [e])) vs o w⟩
/-- MORE BYTES BEHIND WHAT IS OWNED. -/
theorem run_append_bytes {B n m : Nat} {v x : Value} {f g : Nat → BitVec 8} {w : World} {tx : TypeId} (ty : TypeId) (h : Own B v n f w) (hs : Src Tryd.prog 1 tx x m (firsts g m) w) (hnm : n + m ≤ 200000000000000) :
    ∃ v' w', (Builtin.append_ #[31, tx] ty #[v, x]).run Tryd.prog w = .ok v' w' ∧ Own B v' (n + m) (joinb f n g) w' ∧ GrownV w w' v v' := by
  obtain ⟨i, hi, hz, hsz, hby⟩ := info_u8'
  have hs' : Src Tryd.prog i.size tx x m (firsts g m) w := by rw [hsz]; exact hs
  have hm63 : n + m ≤ maxLen := by unfold maxLen; omega
  have grown : ∀ (base : Option Addr) (sCap : Nat), sCap < n + m → (Builtin.firstCells i.size n (.slice base n sCap)).run Tryd.prog w.drew = .ok (firsts f n).toArray w.drew → v = .slice base n sCap →
      ∃ v' w', (Builtin.append_ #[31, tx] ty #[v, x]).run Tryd.prog w = .ok v' w' ∧ Own B v' (n + m) (joinb f n g) w' ∧ GrownV w w' v v' := by
    intro base sCap hlt hold hv
    subst hv
    have hr := run_append_grow_src (P := Tryd.prog) w 31 tx ty 5 i _ under_bytes hi hz base n sCap (firsts f n) hold x m (firsts g m) hs' hlt (by omega) (growslice_fits_wide hlt (by rw [hby]; omega))
    refine ⟨_, _, hr, ⟨⟨by rw [firsts_len, Nat.mul_one], .inr ⟨w.heap.size, _, _, rfl, h.base, heap_alloc_new w.drew _, grownCap_ge _ _ _ _, grownCap_le_maxLen _ _ _ _ hm63, ?_, ?_⟩⟩, by simp; exact Nat.le_succ_of_le h.base⟩, ?_⟩
    · have hge := grownCap_ge w (n + m) sCap 5
      simp only [Array.size_append, List.size_toArray, size_zeroCells, List.length_append, firsts_len, Value.cells]
      simp
      omega
    · rw [firsts_append]
      simp only [Array.toList_append, Nat.mul_one]
      have : (firsts (joinb f n g) (n + m)).length = n + m := firsts_len _ _
      rw [List.take_left' this]
    · exact ⟨⟨rfl, rfl, rfl, by simp, fun k hk _ => Below.heap_alloc w.drew _ k hk⟩, .inr ⟨w.heap.size, rfl, Nat.le_refl _⟩⟩
  rcases h.row.2 with ⟨rfl, rfl⟩ | ⟨b, cap, cur, rfl, hB, hg, hnc, hcm, hcs, ht⟩
  · by_cases hm : m = 0
    · subst hm
      refine ⟨_, _, run_append_nothing (P := Tryd.prog) w 31 tx ty 5 i under_bytes hi none 0 0 (Nat.le_refl _) x hs', Own.nil _ _ _ h.base, GrownV.refl _ _⟩
    · exact grown none 0 (by omega) (run_firstCells_none w.drew _ _ _ _) rfl
  · by_cases hroom : n + m ≤ cap
    · have hsize : cur.size = cap := by rw [hcs, Nat.mul_one]
      have hr := run_append_room_src (P := Tryd.prog) w 31 tx ty 5 i under_bytes hi b 0 n cap x m (firsts g m) hs' hroom
        (fun j hj => by rw [firsts_len] at hj; rw [cell_of_row _ _ _ _ _ _ hg, hsz, Array.getElem?_eq_getElem (by omega)]; rfl) (fun j _ => frozen_of_row _ _ _ _ _ hg)
      rw [hsz] at hr
      simp only [Nat.zero_add, Nat.mul_one] at hr
      obtain ⟨cs', h1, h2, h3⟩ := setCells_row b 5 (firsts g m) n w cur hg
      have hgr := setCells_grown b n (firsts g m) w
      refine ⟨_, _, hr, ⟨⟨by rw [firsts_len, Nat.mul_one], .inr ⟨b, cap, cs', rfl, hB, h1, hroom, hcm, by rw [h2, hcs], ?_⟩⟩, Nat.le_trans h.base hgr.size⟩, hgr, .inl rfl⟩
      apply List.ext_getElem?
      intro j
      rw [Nat.mul_one]
      by_cases hj : j < n + m
      · rw [List.getElem?_take, if_pos hj, firsts_get _ _ _ hj, Array.getElem?_toList, h3, firsts_len]
        by_cases hjn : n ≤ j
        · rw [if_pos ⟨hjn, hj, by omega⟩, firsts_get _ _ _ (by omega)]
          simp [joinb, show ¬ j < n by omega]
        · rw [if_neg (by omega)]
          have := congrArg (·[j]?) ht
          simp only [Nat.mul_one, List.getElem?_take, show j < n by omega, if_true] at this
          rw [Array.getElem?_toList] at this
          rw [this, firsts_get _ _ _ (by omega)]
          simp [joinb, show j < n by omega]
      · rw [List.getElem?_eq_none (by rw [List.length_take]; omega), List.getElem?_eq_none (by rw [firsts_len]; omega)]
    · refine grown (some ⟨b, 0, none⟩) cap (by omega) ?_ rfl
      rw [hsz]
      exact run_firstCells_some w.drew 1 n ⟨b, 0, none⟩ n cap (firsts f n) (by rw [firsts_len, Nat.mul_one]) (fun j u hj => by
        have := h.row.cells (g := b) rfl j u hj
        simpa using this)
theorem wpList_append_bytes {ops : Array Oper} {rest : List Oper} {o : Oper} {a : Act} {w : World} {Q : Exit → Act → World → Prop} (hgd : o.guard = none) (s x : Operand) (tx : TypeId)
    (ho : o.op = .call { callee := .builtin .append, args := #[s, x], argTypes := #[31, tx] })
    {B n m : Nat} {v xv : Value} {f g : Nat → BitVec 8} (hs : a.eval s = v) (hx : a.eval x = xv) (h : Own B v n f w) (hsrc : Src Tryd.prog 1 tx xv m (firsts g m) w) (hnm : n + m ≤ 200000000000000)
    (hk : ∀ v' w', Own B v' (n + m) (joinb f n g) w' → GrownV w w' v v' → wpList Tryd.prog ops Q rest (a.put o.dst v') w') : wpList Tryd.prog ops Q (o :: rest) a w :=
  wpList_plain hgd fun _ hK => by
    obtain ⟨v', w', hr, h2, h3⟩ := run_append_bytes o.type h hsrc hnm
    unfold Oper.wp execOp
    simp only [ho, resolve, invoke, builtin, Sem.run_bind, Sem.run_pure, Result.andThen_ok, List.map_toArray, List.map_cons, List.map_nil, hs, hx, hr]
    exact hK _ _ (hk v' w' h2 h3)
/-- The empty row that '[]byte' braces make. -/
theorem Own.empty {B : Nat} (f : Nat → BitVec 8) (w : World) (hB : B ≤ w.heap.size) : Own B (.slice (some ⟨w.heap.size, 0, none⟩) 0 0) 0 f (w.alloc (.cells #[] 5)) :=
  ⟨World.ownsRow_made w #[] 0 hB (by decide) rfl, by simp; exact Nat.le_succ_of_le hB⟩
theorem step_append_bytes {ops : Array Oper} {o : Oper} {a : Act} {w : World} {K : Act → World → Prop} {Q : Exit → Act → World → Prop} {E : Prop} (hgd : o.guard = none) (s x : Operand) (tx : TypeId)
    (ho : o.op = .call { callee := .builtin .append, args := #[s, x], argTypes := #[31, tx] })
    {B n m : Nat} {v xv : Value} {f g : Nat → BitVec 8} (hs : a.eval s = v) (hx : a.eval x = xv) (h : Own B v n f w) (hsrc : Src Tryd.prog 1 tx xv m (firsts g m) w) (hnm : n + m ≤ 200000000000000)
    (hk : ∀ v' w', Own B v' (n + m) (joinb f n g) w' → GrownV w w' v v' → K (a.put o.dst v') w') : if Region.wanted o (yielded ops a.tmps) = true then Oper.wp Tryd.prog o a w K Q else E := by
  have hw : Region.wanted o (yielded ops a.tmps) = true := by simp [Region.wanted, hgd]
  rw [if_pos hw]
  obtain ⟨v', w', hr, h2, h3⟩ := run_append_bytes o.type h hsrc hnm
  unfold Oper.wp execOp
  simp only [ho, resolve, invoke, builtin, Sem.run_bind, Sem.run_pure, Result.andThen_ok, List.map_toArray, List.map_cons, List.map_nil, hs, hx, hr]
  exact hk v' w' h2 h3
theorem Own.bytesIn {B n : Nat} {v : Value} {f : Nat → BitVec 8} {w : World} (h : Own B v n f w) (hn : 0 < n) : ∃ g cap, v = .slice (some ⟨g, 0, none⟩) n cap ∧ n ≤ cap ∧ cap ≤ maxLen ∧ BytesIn w (some ⟨g, 0, none⟩) n f := by
  obtain ⟨g, cap, rfl, hnc, hcm, _, hlt, hc⟩ := own_slice hn h.row
  exact ⟨g, cap, rfl, hnc, hcm, Nat.le_trans hnc hcm, .inr ⟨g, 0, rfl, hlt, fun i hi => by rw [Nat.zero_add]; exact hc i hi⟩⟩
theorem bytesIn_later {w w1 : World} {a : Option Addr} {n : Nat} {f : Nat → BitVec 8} (h : BytesIn w a n f) (hb : Below w.heap.size w w1) : BytesIn w1 a n f :=
  ⟨h.1, h.2.imp id fun ⟨b, o, ha, hlt, hc⟩ => ⟨b, o, ha, Nat.lt_of_lt_of_le hlt hb.size, fun i hi => by rw [hb.cell (p := ⟨b, o + i, none⟩) hlt]; exact hc i hi⟩⟩
/-- Bytes that came in, as what is appended. -/
theorem src_in {w : World} {a : Option Addr} {n : Nat} {f : Nat → BitVec 8} (h : BytesIn w a n f) (c : Nat) : Src Tryd.prog 1 31 (.slice a n c) n (firsts f n) w := by
  rcases h.2 with rfl | ⟨b, o, rfl, _, hc⟩
  · cases a with
    | none => exact src_none f c w
    | some x => exact Src.ofSlice w under_bytes x 0 c [] (by simp) (fun j u h => by simp at h) (fun u h => by cases h)
  · exact src_bytes f b o n c w hc
theorem Own.drew {B n : Nat} {v : Value} {f : Nat → BitVec 8} {w : World} (h : Own B v n f w) : Own B v n f w.drew := h.later (Below.refl _ _).drew
end Go.Proofs.YtjbpjoondmcnlabDoor
/-
  BYTES AND TEXTS THAT CAME IN, opened by what the row's reading says.
-/
namespace Go.Proofs.YtjbpjoondmcnlabDoor
open Go Go.RowKit Go.ChangeShapes Go.WideShapes
set_option maxRecDepth 100000 in
theorem open_bytes {H : Type} {enc : TypeId × Value → H} {w : World} {base : Nat} {v : Value} {d : DataW H} {p : List MemPlace} (hk : Value.okWide Tryd.prog w .any base 31 v)
    (h : DataW.Trod enc Tryd.prog w 0 (fun _ => true) true 31 v d p) : ∃ a len cap f, v = .slice a len cap ∧ BytesIn w a len f ∧ len ≤ cap ∧ cap ≤ maxLen := by
  obtain ⟨a0, len, cap, rfl⟩ := okWide_slice Tryd.underlying31 hk
  obtain ⟨fuel, hf⟩ := h
  rcases open_ints Tryd.underlying31 Tryd.underlying5 (by kernel_rfl) hf with ⟨hcs, _⟩ | ⟨x, l, c, zs, hcs, _, hl, hm, hz, _, hcell, hwz⟩
  · have hcs : [Value.slice a0 len cap] = [Value.slice none 0 0] := hcs
    simp only [List.cons.injEq, Value.slice.injEq, and_true] at hcs
    obtain ⟨rfl, rfl, rfl⟩ := hcs
    obtain ⟨f, hf⟩ := row_in w none 0 0 [] (.inl ⟨rfl, rfl, rfl, rfl⟩)
    exact ⟨_, _, _, f, rfl, hf, Nat.le_refl _, Nat.zero_le _⟩
  · have hcs : [Value.slice a0 len cap] = [Value.slice (some x) l c] := hcs
    simp only [List.cons.injEq, Value.slice.injEq, and_true] at hcs
    obtain ⟨rfl, rfl, rfl⟩ := hcs
    obtain ⟨f, hf⟩ := row_in w (some x) len cap zs (.inr ⟨x, rfl, hl, hm, by simpa using hz, hcell, hwz⟩)
    exact ⟨_, _, _, f, rfl, hf, hl, hm⟩
theorem bytesOf_u8 : Tryd.prog.bytesOf 5 = 1 := by kernel_rfl
set_option maxRecDepth 100000 in
theorem open_bytes_at {H : Type} {enc : TypeId × Value → H} {w : World} {fuel : Nat} {c : Value} {y : DataW H × List MemPlace} (h : DataW.trod enc Tryd.prog w 0 (fun _ => true) true fuel 31 [c] = some y) :
    ∃ a len cap f, c = .slice a len cap ∧ BytesIn w a len f ∧ len ≤ cap ∧ cap ≤ maxLen ∧ ∀ R : Nat, (∀ n ∈ DataW.weights Tryd.prog 31 y.1, n ≤ R) → len ≤ R := by
  rcases open_ints Tryd.underlying31 Tryd.underlying5 (by kernel_rfl) h with ⟨hcs, hy⟩ | ⟨x, l, cp, zs, hcs, _, hl, hm, hz, hy, hcell, hwz⟩
  · obtain rfl : c = .slice none 0 0 := by simpa using hcs
    obtain ⟨f, hf⟩ := row_in w none 0 0 [] (.inl ⟨rfl, rfl, rfl, rfl⟩)
    exact ⟨_, _, _, f, rfl, hf, Nat.le_refl _, Nat.zero_le _, fun _ _ => Nat.zero_le _⟩
  · obtain rfl : c = .slice (some x) l cp := by simpa using hcs
    have hz' : zs.length = cp := by simpa using hz
    obtain ⟨f, hf⟩ := row_in w (some x) l cp zs (.inr ⟨x, rfl, hl, hm, hz', hcell, hwz⟩)
    refine ⟨_, _, _, f, rfl, hf, hl, hm, fun R hR => ?_⟩
    subst hy
    have h1 := hR (((lits .u8 (zs.take l)).length + (lits .u8 (zs.drop l)).length) * Tryd.prog.bytesOf 5) (by
      rw [DataW.weights, Tryd.underlying31]
      exact List.mem_cons_self)
    rw [bytesOf_u8] at h1
    simp only [lits, List.length_map, List.length_take, List.length_drop] at h1
    omega
/-- Each text is one of bytes. -/
theorem str_as (s : ByteArray) : ∃ f, s = strOf f s.size := by
  refine ⟨fun i => (s.data.toList.getD i 0).toBitVec, ?_⟩
  apply ByteArray.ext
  apply Array.ext'
  show s.data.toList = (strL _ s.size).toArray.toList
  have hl : s.data.toList.length = s.size := by simp
  apply List.ext_getElem?
  intro i
  by_cases h : i < s.size
  · simp [strL, h]
  · rw [List.getElem?_eq_none (by omega), List.getElem?_eq_none (by simp [strL]; omega)]
set_option maxRecDepth 100000 in
theorem open_text {H : Type} {enc : TypeId × Value → H} {w : World} {base : Nat} {v : Value} {d : DataW H} {p : List MemPlace} (hk : Value.okWide Tryd.prog w .any base 9 v)
    (h : DataW.Trod enc Tryd.prog w 0 (fun _ => true) true 9 v d p) : ∃ f n, v = .string (strOf f n) ∧ n ≤ maxLen := by
  obtain ⟨s, rfl, _, _, hs⟩ := ChangeMaps.open_string Tryd.underlying9 hk h
  obtain ⟨f, hf⟩ := str_as s
  exact ⟨f, s.size, by rw [← hf], hs⟩
end Go.Proofs.YtjbpjoondmcnlabDoor
/-
  sha: what the laws lean on: sums beside sums, bytes as texts.
-/
namespace Go.Proofs.YtjbpjoondmcnlabDoor
open Go Go.RowKit Go.BigFrame
set_option linter.unusedSimpArgs false
set_option linter.unusedVariables false
theorem eq32 (p q : Nat → BitVec 8) (w : World) : (Op.equalIn 10000 103 (.agg (bytesA p 32)) (.agg (bytesA q 32))).run Tryd.prog w = .ok (allEq p q 32) w :=
  run_eq_bytes (P := Tryd.prog) (t := 103) (e := 5) (n := 32) p q w (by kernel_rfl) (by kernel_rfl) (by kernel_rfl) (by kernel_rfl) (by kernel_rfl)
theorem eq32_same (p : Nat → BitVec 8) (w : World) : (Op.equalIn 10000 103 (.agg (bytesA p 32)) (.agg (bytesA p 32))).run Tryd.prog w = .ok true w := by
  rw [eq32, (allEq_iff p p 32).2 (fun _ _ => rfl)]
theorem conv_in (f : Nat → BitVec 8) (a : Option Addr) (m c : Nat) (w : World) (h : BytesIn w a m f) :
    (convert 31 9 (.slice a m c)).run Tryd.prog w = .ok (.string (strOf f m)) w := by
  rcases h.2 with rfl | ⟨b, o, rfl, _, hc⟩
  · have h1 : Tryd.prog.underlying 31 = some (.slice 5) := by kernel_rfl
    have h2 : Tryd.prog.underlying 9 = some .string := by kernel_rfl
    have h3 : Tryd.prog.underlying 5 = some (.int .u8) := by kernel_rfl
    cases a with
    | none =>
      simp [convert, run_underlying h1, run_underlying h2, run_underlying h3, Sem.run_bind]
      rfl
    | some x =>
      have h := run_convert_bytes_back (P := Tryd.prog) w 31 9 5 x c [] (by kernel_rfl) (by kernel_rfl) (by kernel_rfl) (fun j hj => by simp at hj)
      exact h
  · exact conv_str f b o m c w hc
theorem run_upto (w : World) (a : Option Addr) (k m c : Nat) (hk : k ≤ m) (hm : m ≤ c) : (Instr.sliceAt 31 (.slice a m c) none (some (.int .i64 (k : Int))) none).run Tryd.prog w = .ok (.slice a k c) w := by
  have hkc : k ≤ c := Nat.le_trans hk hm
  have hu : Tryd.prog.underlying 31 = some (.slice (Tryd.prog.elem 31)) := by kernel_rfl
  rw [run_sliceAt_slice (t := 31) (h := hu), run_slice_any (t := 31) (ht := hu)]
  have h0 : (0 : Int) ≤ (k : Int) := by omega
  have h1 : (k : Int) ≤ (c : Int) := by omega
  simp [Instr.sliceBounds, go_sem, h0, h1]
theorem bytesIn_upto {w : World} {a : Option Addr} {k m : Nat} {p : Nat → BitVec 8} (h : BytesIn w a m p) (hk : k ≤ m) : BytesIn w a k p := by
  refine ⟨Nat.le_trans hk h.1, ?_⟩
  rcases h.2 with h0 | ⟨b, o, e, hb, hc⟩
  · exact .inl (by omega)
  · exact .inr ⟨b, o, e, hb, fun i hi => hc i (by omega)⟩
/-- A slice of one's own as bytes that lie somewhere. -/
theorem Own.asBytes {B n : Nat} {v : Value} {f : Nat → BitVec 8} {w : World} (h : Own B v n f w) : ∃ a c, v = .slice a n c ∧ n ≤ c ∧ c ≤ maxLen ∧ BytesIn w a n f := by
  by_cases hn : 0 < n
  · obtain ⟨g, cap, e, h1, h2, h3⟩ := h.bytesIn hn
    exact ⟨_, _, e, h1, h2, h3⟩
  · obtain rfl : n = 0 := by omega
    rcases h.row.2 with ⟨rfl, _⟩ | ⟨g, cap, cur, rfl, _, _, h1, h2, _⟩
    · exact ⟨none, 0, rfl, Nat.le_refl _, Nat.zero_le _, Nat.zero_le _, .inl rfl⟩
    · exact ⟨some ⟨g, 0, none⟩, cap, rfl, Nat.zero_le _, h2, Nat.zero_le _, .inl rfl⟩
theorem joinb_parts (f : Nat → BitVec 8) (k : Nat) : joinb f k (fun i => f (k + i)) = f := by
  funext i
  unfold joinb
  by_cases h : i < k
  · rw [if_pos h]
  · rw [if_neg h]
    show f (k + (i - k)) = f i
    congr 1; omega
theorem wpList_append_bytes_g {ops : Array Oper} {rest : List Oper} {o : Oper} {a : Act} {w : World} {Q : Exit → Act → World → Prop} (hw : Region.wanted o (yielded ops a.tmps) = true) (s x : Operand) (tx : TypeId)
    (ho : o.op = .call { callee := .builtin .append, args := #[s, x], argTypes := #[31, tx] })
    {B n m : Nat} {v xv : Value} {f g : Nat → BitVec 8} (hs : a.eval s = v) (hx : a.eval x = xv) (h : Own B v n f w) (hsrc : Src Tryd.prog 1 tx xv m (firsts g m) w) (hnm : n + m ≤ 200000000000000)
    (hk : ∀ v' w', Own B v' (n + m) (joinb f n g) w' → GrownV w w' v v' → wpList Tryd.prog ops Q rest (a.put o.dst v') w') : wpList Tryd.prog ops Q (o :: rest) a w :=
  wpList_step fun K hK => by
    rw [if_pos hw]
    obtain ⟨v', w', hr, h2, h3⟩ := run_append_bytes o.type h hsrc hnm
    unfold Oper.wp execOp
    simp only [ho, resolve, invoke, builtin, Sem.run_bind, Sem.run_pure, Result.andThen_ok, List.map_toArray, List.map_cons, List.map_nil, hs, hx, hr]
    exact hK _ _ (hk v' w' h2 h3)
end Go.Proofs.YtjbpjoondmcnlabDoor
/-
  A REGION THAT DRAWS ITS ORDER AND WHOSE OPERATIONS ONLY ADD MEMORY: what yields one value in every later world may be taken first, a call too; what makes memory comes up by itself.
-/
namespace Go.Proofs.YtjbpjoondmcnlabDoor
open Go Go.RowKit
set_option linter.unusedVariables false
/-- A later world: all that was there stands. -/
def Ext (w w2 : World) : Prop := Below w.heap.size w w2
theorem Ext.refl (w : World) : Ext w w := Below.refl _ _
theorem Ext.trans {a b c : World} (h : Ext a b) (h2 : Ext b c) : Ext a c := Below.trans h (h2.mono (Below.size h))
section
variable {P : Program} {ops : Array Oper} {Q : Exit → Act → World → Prop} {md : Region.Mode}
/-- One value, in every later world. -/
def YieldsM (P : Program) (ops : Array Oper) (o : Oper) (v : Value) (a : Act) (w : World) : Prop :=
  (Region.wanted o (yielded ops a.tmps) = true ∧ ∀ w2, Ext w w2 → o.quietAt P a (Ext w2) w2 v) ∨ (Region.wanted o (yielded ops a.tmps) = false ∧ v = undef)
theorem YieldsM.later {o : Oper} {v : Value} {a : Act} {w w2 : World} (h : YieldsM P ops o v a w) (e : Ext w w2) : YieldsM P ops o v a w2 :=
  h.imp (fun ⟨h1, h2⟩ => ⟨h1, fun w3 h3 => h2 w3 (e.trans h3)⟩) id
theorem YieldsM.same {o : Oper} {v : Value} {a b : Act} {w : World} (h : YieldsM P ops o v a w) (he : execOp b.eval o = execOp a.eval o) (hw : Region.wanted o (yielded ops b.tmps) = Region.wanted o (yielded ops a.tmps)) : YieldsM P ops o v b w := by
  unfold YieldsM Oper.quietAt at *
  rw [he, hw]; exact h
/-- Whatever order is picked from here on, in whatever later world. -/
def anyM (P : Program) (md : Region.Mode) (ops : Array Oper) (Q : Exit → Act → World → Prop) : Nat → Array Bool → Act → World → Prop
  | 0, l, a, w => Region.ready md ops l = [] ∧ ∀ w2, Ext w w2 → Q .normal a w2
  | f + 1, l, a, w => (Region.ready md ops l = [] → ∀ w2, Ext w w2 → Q .normal a w2) ∧ ∀ i ∈ Region.ready md ops l, ∀ w2, Ext w w2 → wpOp P ops Q i (fun a' w' => Ext w2 w' ∧ anyM P md ops Q f (l.setIfInBounds i true) a' w') a w2
theorem anyM_later : ∀ {f : Nat} {l : Array Bool} {a : Act} {w w2 : World}, Ext w w2 → anyM P md ops Q f l a w → anyM P md ops Q f l a w2
  | 0, _, _, _, _, e, h => ⟨h.1, fun w3 h3 => h.2 w3 (e.trans h3)⟩
  | _ + 1, _, _, _, _, e, h => ⟨fun h0 w3 h3 => h.1 h0 w3 (e.trans h3), fun i hi w3 h3 => h.2 i hi w3 (e.trans h3)⟩
theorem anyM_any : ∀ {f : Nat} {l : Array Bool} {a : Act} {w : World}, anyM P md ops Q f l a w → wpAny P md ops Q f l a w
  | 0, _, _, w, h => ⟨h.1, h.2 w (Ext.refl w)⟩
  | _ + 1, _, _, w, h => ⟨fun h0 => h.1 h0 w (Ext.refl w), fun i hi => wpOp_mono (fun _ _ h' => anyM_any h'.2) (h.2 i hi w (Ext.refl w))⟩
theorem region_anyM {id : Nat} {a : Act} {w : World} (hm : P.follows .mixedOrders = true) (h : anyM P .any ops Q ops.size (Array.replicate ops.size false) a w.drew) : (Code.region id ops true).wp P Q a w :=
  wp_region_any hm (anyM_any h)
theorem YieldsM.op {i : Nat} {o : Oper} {v : Value} {a : Act} {w w2 : World} (hi : ops[i]? = some o) (hy : YieldsM P ops o v a w) (e : Ext w w2) {K : Act → World → Prop} (h : ∀ w3, Ext w2 w3 → K (a.put o.dst v) w3) : wpOp P ops Q i K a w2 := by
  refine wpOp_of_qOp (C := fun w3 => Ext w2 w3) (K := fun a' => a' = a.put o.dst v) (Ext.refl w2) (fun a' w3 h3 ha => by rw [ha]; exact h w3 h3) ?_
  refine YieldsIn.qOp (v := v) hi ?_ rfl
  refine hy.imp (fun ⟨h1, h2⟩ => ⟨h1, fun w3 h3 => ?_⟩) _root_.id
  have q := h2 w3 (e.trans h3)
  unfold Oper.quietAt at *
  generalize (execOp a.eval o).run P w3 = r at *
  cases r with
  | halt x w' => exact q
  | ok n w' =>
    cases n <;> first | exact q | skip
    all_goals
      obtain ⟨q1, q2⟩ := q
      exact ⟨q1, q2.mono fun e w4 h4 => ⟨h4.1, h3.trans h4.2⟩⟩
/-- What another operation shows with the value laid, it shows without it. -/
theorem wpOp_aside {j : Nat} {oi oj : Oper} {v : Value} {w0 : World} (hj : ops[j]? = some oj) (hap : oi.apart ops oj = true) (hsi : ∀ cs b, oi.op ≠ .select cs b) (hsj : ∀ cs b, oj.op ≠ .select cs b)
    (hQ : ∀ c a w, Q (.panic c) (a.put oi.dst v) w → Q (.panic c) a w) {K : Act → World → Prop} {a : Act} {w : World} (hy : YieldsM P ops oi v a w0) (h : wpOp P ops Q j K (a.put oi.dst v) w) :
    wpOp P ops Q j (fun a' w' => YieldsM P ops oi v a' w0 ∧ K (a'.put oi.dst v) w') a w := by
  obtain ⟨p1, p2, p3⟩ := Oper.apart_spec hap
  have st : ∀ b : Act, YieldsM P ops oi v b w0 → ∀ u, YieldsM P ops oi v (b.put oj.dst u) w0 := fun b hb u => hb.same (execOp_put oi hsi b oj.dst u p3) (wanted_put oi b oj.dst u p3)
  have sw : ∀ (b : Act) (u : Value) (w' : World), K ((b.put oi.dst v).put oj.dst u) w' → K ((b.put oj.dst u).put oi.dst v) w' := fun b u w' hk => by rw [← Act.put_comm b v u p2]; exact hk
  unfold wpOp at h ⊢
  simp only [hj] at h ⊢
  rw [wanted_put oj a oi.dst v p1] at h
  by_cases hw : Region.wanted oj (yielded ops a.tmps) = true
  · rw [if_pos hw] at h ⊢
    refine h.imp (fun h1 => ?_) (fun h2 => ⟨?_, h2.2⟩)
    · unfold Oper.wp at h1 ⊢
      rw [execOp_put oj hsj a oi.dst v p1] at h1
      cases hr : (execOp a.eval oj).run P w with
      | halt x w' =>
        rw [hr] at h1
        cases x with
        | panic u => exact hQ _ _ _ h1
        | _ => exact h1
      | ok n w' =>
        rw [hr] at h1
        cases n with
        | value u => exact ⟨st a hy u, sw a u w' h1⟩
        | skip => exact ⟨st a hy _, sw a _ w' h1⟩
        | defer d =>
          have hd : YieldsM P ops oi v { a with defers := d :: a.defers } w0 := hy.same rfl rfl
          refine ⟨st _ hd _, sw _ _ w' ?_⟩
          rw [← Act.put_defers]
          exact h1
        | enter f args =>
          refine Calls.mono h1 fun e w'' he => ?_
          cases e with
          | returned u => exact ⟨st a hy u, sw a u w'' he⟩
          | panicked c => exact hQ _ _ _ he
          | outgrown => exact he
        | row r args => exact Rows.mono h1 fun u w'' he => ⟨st a hy u, sw a u w'' he⟩
        | _ => exact h1
    · have q := h2.1
      unfold Oper.asks at q ⊢
      rw [execOp_put oj hsj a oi.dst v p1] at q
      exact q
  · rw [if_neg hw] at h ⊢
    exact ⟨st a hy _, sw a _ w h⟩
theorem anyM_first {i : Nat} {oi : Oper} {v : Value} (hi : ops[i]? = some oi) (hsel : ∀ (j : Nat) (o : Oper) cs b, ops[j]? = some o → o.op ≠ .select cs b) (hQ : ∀ c a w, Q (.panic c) (a.put oi.dst v) w → Q (.panic c) a w) :
    ∀ (f : Nat) (l : Array Bool) (a : Act) (w : World), (∀ j oj, ops[j]? = some oj → j ≠ i → l.getD j true = false → (∀ e ∈ oj.after, Region.binds md e = true → e.on ≠ i) → oi.apart ops oj = true) →
      i ∈ Region.ready md ops l → YieldsM P ops oi v a w → anyM P md ops Q f (l.setIfInBounds i true) (a.put oi.dst v) w → anyM P md ops Q (f + 1) l a w := by
  intro f
  induction f with
  | zero =>
    intro l a w _ hr hy H
    refine ⟨fun h0 => (by rw [h0] at hr; cases hr), fun j hj w2 e => ?_⟩
    by_cases hji : j = i
    · subst hji; exact hy.op hi e (fun w3 h3 => ⟨h3, anyM_later (e.trans h3) H⟩)
    · have h1 := ready_mono hj hji
      rw [H.1] at h1
      cases h1
  | succ f ih =>
    intro l a w hfree hr hy H
    refine ⟨fun h0 => (by rw [h0] at hr; cases hr), fun j hj w2 e => ?_⟩
    by_cases hji : j = i
    · subst hji; exact hy.op hi e (fun w3 h3 => ⟨h3, anyM_later (e.trans h3) H⟩)
    · obtain ⟨hun, oj, hoj, hall⟩ := mem_ready.1 hj
      have h0 := (mem_ready.1 hr).1
      have hnot : ∀ e ∈ oj.after, Region.binds md e = true → e.on ≠ i := fun e he hb heq => by
        have h1 := hall e he hb
        rw [heq, getD_both h0] at h1
        cases h1
      have h2 := wpOp_aside (w0 := w2) hoj (hfree j oj hoj hji hun hnot) (fun cs b => hsel i oi cs b hi) (fun cs b => hsel j oj cs b hoj) hQ (hy.later e) (H.2 j (ready_mono hj hji) w2 e)
      refine wpOp_mono (fun a' w' h3 => ⟨h3.2.1, ih (l.setIfInBounds j true) a' w' (fun k ok hk hki hku hno => hfree k ok hk hki ?_ hno) (ready_mono hr (Ne.symm hji)) (h3.1.later h3.2.1) ?_⟩) h2
      · by_cases hjk : j = k
        · subst hjk; exact hun
        · rwa [getD_set_ne true hjk] at hku
      · rw [Array.setIfInBounds_comm _ _ hji]
        exact h3.2.2
/-- Take number i first. -/
theorem anyM_take {i : Nat} {oi : Oper} {v : Value} {f : Nat} {l : Array Bool} {a : Act} {w : World} (hi : ops[i]? = some oi) (hs : Region.noSelect ops = true) (hf : Region.free md ops l i = true) (hr : (Region.ready md ops l).contains i = true)
    (hQ : ∀ c a w, Q (.panic c) (a.put oi.dst v) w → Q (.panic c) a w) (hy : YieldsM P ops oi v a w) (h : anyM P md ops Q f (l.setIfInBounds i true) (a.put oi.dst v) w) : anyM P md ops Q (f + 1) l a w :=
  anyM_first hi (Region.noSelect_spec hs) hQ f l a w (Region.free_spec hi hf) (by simpa using hr) hy h
/-- Number i alone may come up: it is carried out, and may make memory. -/
theorem anyM_only {i : Nat} {o : Oper} {f : Nat} {l : Array Bool} {a : Act} {w : World} (hr : Region.ready md ops l = [i]) (hi : ops[i]? = some o) (hw : Region.wanted o (yielded ops a.tmps) = true)
    (h : ∀ w2, Ext w w2 → ∃ v w3, (execOp a.eval o).run P w2 = .ok (.value v) w3 ∧ Ext w2 w3 ∧ anyM P md ops Q f (l.setIfInBounds i true) (a.put o.dst v) w3) : anyM P md ops Q (f + 1) l a w := by
  refine ⟨fun h0 => (by rw [hr] at h0; cases h0), fun j hj w2 e => ?_⟩
  rw [hr, List.mem_singleton] at hj
  subst hj
  obtain ⟨v, w3, h1, h2, h3⟩ := h w2 e
  unfold wpOp
  simp only [hi]
  rw [if_pos hw]
  refine .inl ?_
  unfold Oper.wp
  rw [h1]
  exact ⟨h2, h3⟩
theorem anyM_done {f : Nat} {l : Array Bool} {a : Act} {w : World} (hr : Region.ready md ops l = []) (h : ∀ w2, Ext w w2 → Q .normal a w2) : anyM P md ops Q f l a w := by
  cases f with
  | zero => exact ⟨hr, h⟩
  | succ f => exact ⟨fun _ => h, by rw [hr]; simp⟩
end
end Go.Proofs.YtjbpjoondmcnlabDoor
/-
  sha: bytes of one's own beside a hash that changes; appends as runs.
-/
namespace Go.Proofs.YtjbpjoondmcnlabDoor
open Go Go.RowKit Go.BigFrame
set_option linter.unusedSimpArgs false
set_option linter.unusedVariables false
theorem Chg.grown {x : Nat} {w w' : World} (hc : Chg x w w') : w.grownBy w' (some x) := ⟨hc.os, hc.tape, hc.output, hc.size, fun k hk hne => hc.block k hk (fun e => hne (by rw [e]))⟩
theorem Own.chg {B x n : Nat} {v : Value} {f : Nat → BitVec 8} {w w' : World} (h : Own B v n f w) (hc : Chg x w w') (hx : v.ownBlock ≠ some x) : Own B v n f w' := h.kept hc.grown (.inr (.inr hx))
theorem Own.off {B x n : Nat} {v : Value} {f : Nat → BitVec 8} {w : World} (h : Own B v n f w) (hx : x < B) : v.ownBlock ≠ some x := fun e => by have := (h.lt e).1; omega
/-- What an append onto v changes, if v has a block of its own: that block. -/
theorem GrownV.chg {w w' : World} {v v' : Value} {y : Nat} (h : GrownV w w' v v') (hv : v.ownBlock = none ∨ v.ownBlock = some y) : Chg y w w' :=
  ⟨h.grown.os, h.grown.tape, h.grown.output, h.grown.size, fun k hk hne => h.grown.block k hk (by
    rcases hv with e | e
    · rw [e]; simp
    · rw [e]; intro e2; injection e2 with e2; exact hne e2)⟩
/-- A slice of one's own as bytes that lie somewhere, from B on. -/
theorem Own.asMine {B n : Nat} {v : Value} {f : Nat → BitVec 8} {w : World} (h : Own B v n f w) : ∃ a c, v = .slice a n c ∧ n ≤ c ∧ c ≤ maxLen ∧ BytesIn w a n f ∧ (∀ y, a = some y → B ≤ y.block) ∧
    (0 < n → ∃ g cur, a = some ⟨g, 0, none⟩ ∧ w.heap[g]? = some (.cells cur 5 (0, 0)) ∧ n ≤ cur.size) := by
  rcases h.row.2 with ⟨rfl, hn⟩ | ⟨g, cap, cur, rfl, hB, hg, hnc, hcm, hcs, ht⟩
  · have hn0 : n = 0 := by omega
    subst hn0
    exact ⟨none, 0, rfl, Nat.le_refl _, Nat.zero_le _, ⟨Nat.zero_le _, .inl rfl⟩, fun y e => (by cases e), fun h => by omega⟩
  · refine ⟨some ⟨g, 0, none⟩, cap, rfl, hnc, hcm, ⟨Nat.le_trans hnc hcm, ?_⟩, fun y e => by injection e with e; subst e; exact hB, fun _ => ⟨g, cur, rfl, hg, by omega⟩⟩
    by_cases h0 : n = 0
    · exact .inl h0
    · obtain ⟨g', cap', e, h1, h2, h3⟩ := h.bytesIn (by omega)
      injection e with e1 e2 e3
      rcases h3.2 with h4 | h4
      · exact .inl h4
      · rw [← e1] at h4
        exact .inr h4
theorem exec_append {o : Oper} {a : Act} {w : World} (s x : Operand) (tx : TypeId) (ho : o.op = .call { callee := .builtin .append, args := #[s, x], argTypes := #[31, tx] })
    {B n m : Nat} {v xv : Value} {f g : Nat → BitVec 8} (hs : a.eval s = v) (hx : a.eval x = xv) (h : Own B v n f w) (hsrc : Src Tryd.prog 1 tx xv m (firsts g m) w) (hnm : n + m ≤ 200000000000000) :
    ∃ v' w', (execOp a.eval o).run Tryd.prog w = .ok (.value v') w' ∧ Own B v' (n + m) (joinb f n g) w' ∧ GrownV w w' v v' := by
  obtain ⟨v', w', hr, h2, h3⟩ := run_append_bytes o.type h hsrc hnm
  refine ⟨v', w', ?_, h2, h3⟩
  unfold execOp
  simp only [ho, resolve, invoke, builtin, Sem.run_bind, Sem.run_pure, Result.andThen_ok, List.map_toArray, List.map_cons, List.map_nil, hs, hx, hr]
/-- Behind an empty row of no room: a new row, or the same one. -/
theorem run_append_fresh {B m k : Nat} {x : Value} {f g : Nat → BitVec 8} {w : World} {tx : TypeId} (ty : TypeId) (h : Own B (.slice (some ⟨k, 0, none⟩) 0 0) 0 f w) (hs : Src Tryd.prog 1 tx x m (firsts g m) w) (hm : m ≤ 200000000000000) :
    ∃ v' w', (Builtin.append_ #[31, tx] ty #[.slice (some ⟨k, 0, none⟩) 0 0, x]).run Tryd.prog w = .ok v' w' ∧ Own B v' m g w' ∧ Below w.heap.size w w' := by
  obtain ⟨i, hi, hz, hsz, hby⟩ := info_u8'
  have hs' : Src Tryd.prog i.size tx x m (firsts g m) w := by rw [hsz]; exact hs
  by_cases h0 : m = 0
  · subst h0
    exact ⟨_, w, run_append_nothing (P := Tryd.prog) w 31 tx ty 5 i under_bytes hi _ 0 0 (Nat.le_refl _) x hs', h.congr (fun j hj => by omega), Below.refl _ _⟩
  · have hm63 : 0 + m ≤ maxLen := by unfold maxLen; omega
    have hold : (Builtin.firstCells i.size 0 (.slice (some ⟨k, 0, none⟩) 0 0)).run Tryd.prog w.drew = .ok ([] : List Value).toArray w.drew := run_firstCells_some w.drew i.size 0 _ 0 0 [] (by simp) (fun j v h => by simp at h)
    have hr := run_append_grow_src (P := Tryd.prog) w 31 tx ty 5 i _ under_bytes hi hz (some ⟨k, 0, none⟩) 0 0 [] hold x m (firsts g m) hs' (by omega) (by omega) (growslice_fits_wide (by omega) (by rw [hby]; omega))
    rw [Nat.zero_add] at hr
    refine ⟨_, _, hr, ⟨⟨by rw [firsts_len, Nat.mul_one], .inr ⟨w.heap.size, _, _, rfl, h.base, heap_alloc_new w.drew _, grownCap_ge _ _ _ _, grownCap_le_maxLen _ _ _ _ (by rw [Nat.zero_add] at hm63; exact hm63), ?_, ?_⟩⟩, by simp; exact Nat.le_succ_of_le h.base⟩, (Below.refl w.heap.size w).drew.alloc (by exact Nat.le_refl _) _⟩
    · have hge := grownCap_ge w m 0 5
      simp only [Array.size_append, List.size_toArray, size_zeroCells, List.length_append, firsts_len, Value.cells, List.nil_append]
      simp
      omega
    · simp only [Array.toList_append, Nat.mul_one, List.nil_append]
      have : (firsts g m).length = m := firsts_len _ _
      rw [List.take_left' this]
theorem exec_append_fresh {o : Oper} {a : Act} {w : World} (s x : Operand) (tx : TypeId) (ho : o.op = .call { callee := .builtin .append, args := #[s, x], argTypes := #[31, tx] })
    {B m k : Nat} {xv : Value} {f g : Nat → BitVec 8} (hs : a.eval s = .slice (some ⟨k, 0, none⟩) 0 0) (hx : a.eval x = xv) (h : Own B (.slice (some ⟨k, 0, none⟩) 0 0) 0 f w) (hsrc : Src Tryd.prog 1 tx xv m (firsts g m) w) (hnm : m ≤ 200000000000000) :
    ∃ v' w', (execOp a.eval o).run Tryd.prog w = .ok (.value v') w' ∧ Own B v' m g w' ∧ Below w.heap.size w w' := by
  obtain ⟨v', w', hr, h2, h3⟩ := run_append_fresh o.type h hsrc hnm
  refine ⟨v', w', ?_, h2, h3⟩
  unfold execOp
  simp only [ho, resolve, invoke, builtin, Sem.run_bind, Sem.run_pure, Result.andThen_ok, List.map_toArray, List.map_cons, List.map_nil, hs, hx, hr]
theorem exec_fresh_then {R : Value → World → Prop} {o : Oper} {a : Act} {w : World} (s x : Operand) (tx : TypeId) (ho : o.op = .call { callee := .builtin .append, args := #[s, x], argTypes := #[31, tx] })
    {B m k : Nat} {xv : Value} {f g : Nat → BitVec 8} (hs : a.eval s = .slice (some ⟨k, 0, none⟩) 0 0) (hx : a.eval x = xv) (h : Own B (.slice (some ⟨k, 0, none⟩) 0 0) 0 f w) (hsrc : Src Tryd.prog 1 tx xv m (firsts g m) w) (hnm : m ≤ 200000000000000)
    (hk : ∀ v' w', Own B v' m g w' → Below w.heap.size w w' → R v' w') : ∃ v w3, (execOp a.eval o).run Tryd.prog w = .ok (.value v) w3 ∧ Ext w w3 ∧ R v w3 := by
  obtain ⟨v', w', h1, h2, h3⟩ := exec_append_fresh s x tx ho hs hx h hsrc hnm
  exact ⟨v', w', h1, h3, hk v' w' h2 h3⟩
theorem ext_below {B : Nat} {w0 w w2 : World} (h : Ext w w2) (hb : Below B w0 w) (hB : B ≤ w.heap.size) : Below B w0 w2 := hb.trans (Below.mono (show Below w.heap.size w w2 from h) hB)
end Go.Proofs.YtjbpjoondmcnlabDoor
