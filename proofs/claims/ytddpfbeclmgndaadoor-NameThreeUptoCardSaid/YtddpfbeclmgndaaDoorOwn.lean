/-
  BYTES THAT THE CALL PUTS TOGETHER ITSELF: a slice that it owns, appended to out of whatever source.
-/
import Derived.Test.YtddpfbeclmgndaaDoorBytes
import Derived.Test.YtddpfbeclmgndaaDoorRowKit
import Derived.Test.YtddpfbeclmgndaaDoorRowIn
import Derived.Deep.AppendSrc
import Derived.Deep.Upon
import Derived.Deep.DeepAppendWide
namespace Go.Proofs.YtddpfbeclmgndaaDoor
open Go Go.RowKit
/-- v owns the first n bytes of f, in rows from block B on. -/
structure Own (B : Nat) (v : Value) (n : Nat) (f : Nat → BitVec 8) (w : World) : Prop where
  row : w.ownsRow B 5 1 v n (firsts f n)
  base : B ≤ w.heap.size
/-- From w to w': v's own block may have changed, and new ones are there; v' lies in the old one or in a new one. -/
structure GrownV (w w' : World) (v v' : Value) : Prop where
  grown : w.grownBy w' v.ownBlock
  blk : v'.ownBlock = v.ownBlock ∨ ∃ k, v'.ownBlock = some k ∧ w.heap.size ≤ k
theorem Own.lt {B n k : Nat} {v : Value} {f : Nat → BitVec 8} {w : World} (h : Own B v n f w) (hk : v.ownBlock = some k) : B ≤ k ∧ k < w.heap.size := h.row.lt k hk
theorem Own.congr {B n : Nat} {v : Value} {f g : Nat → BitVec 8} {w : World} (h : Own B v n f w) (hfg : ∀ i, i < n → f i = g i) : Own B v n g w := ⟨by rw [← firsts_congr hfg]; exact h.row, h.base⟩
theorem Own.nil (B : Nat) (f : Nat → BitVec 8) (w : World) (hB : B ≤ w.heap.size) : Own B (.slice none 0 0) 0 f w := ⟨World.ownsRow_nil _ _ _ _, hB⟩
theorem Own.alloc {B n : Nat} {v : Value} {f : Nat → BitVec 8} {w : World} (h : Own B v n f w) (o : Obj) : Own B v n f (w.alloc o) := ⟨h.row.alloc o, by simp; exact Nat.le_succ_of_le h.base⟩
/-- A row of one byte that has just been laid. -/
theorem Own.made {B : Nat} (x : BitVec 8) (w : World) (hB : B ≤ w.heap.size) : Own B (.slice (some ⟨w.heap.size, 0, none⟩) 1 1) 1 (fun _ => x) (w.alloc (.cells #[.int .u8 (n8 x)] 5)) :=
  ⟨⟨rfl, .inr ⟨w.heap.size, 1, _, rfl, hB, heap_alloc_last _ _, Nat.le_refl _, by decide, rfl, rfl⟩⟩, by simp; exact Nat.le_succ_of_le hB⟩
/-- Other rows may change. -/
theorem Own.kept {B n : Nat} {v : Value} {f : Nat → BitVec 8} {w w' : World} {row : Option Nat} (h : Own B v n f w) (hg : w.grownBy w' row) (hd : v.ownBlock = none ∨ row = none ∨ v.ownBlock ≠ row) : Own B v n f w' :=
  ⟨h.row.kept hg (by
    rcases hd with h1 | h1 | h1
    · exact .inl h1
    · cases hv : v.ownBlock with
      | none => exact .inl rfl
      | some k => exact .inr (by rw [h1]; simp)
    · exact .inr h1), Nat.le_trans h.base hg.size⟩
theorem Own.later {B n : Nat} {v : Value} {f : Nat → BitVec 8} {w w' : World} (h : Own B v n f w) (hb : Below w.heap.size w w') : Own B v n f w' :=
  ⟨by
    refine ⟨h.row.1, ?_⟩
    rcases h.row.2 with h1 | ⟨g, cap, cur, rfl, hB, hg, hnc, hcm, hcs, ht⟩
    · exact .inl h1
    · exact .inr ⟨g, cap, cur, rfl, hB, by rw [hb.block _ (lt_of_heap hg)]; exact hg, hnc, hcm, hcs, ht⟩, Nat.le_trans h.base hb.size⟩
theorem GrownV.refl (w : World) (v : Value) : GrownV w w v v := ⟨⟨rfl, rfl, rfl, Nat.le_refl _, fun _ _ _ => rfl⟩, .inl rfl⟩
theorem GrownV.trans {w w1 w2 : World} {v v1 v2 : Value} (h : GrownV w w1 v v1) (h2 : GrownV w1 w2 v1 v2) : GrownV w w2 v v2 := by
  refine ⟨⟨h2.grown.os.trans h.grown.os, h2.grown.tape.trans h.grown.tape, h2.grown.output.trans h.grown.output, Nat.le_trans h.grown.size h2.grown.size, fun k hk hne => ?_⟩, ?_⟩
  · rw [h2.grown.block k (Nat.lt_of_lt_of_le hk h.grown.size) ?_, h.grown.block k hk hne]
    rcases h.blk with e | ⟨j, e, hj⟩
    · rw [e]; exact hne
    · rw [e]; intro e2; injection e2 with e2; omega
  · rcases h2.blk with e | ⟨j, e, hj⟩
    · rcases h.blk with e1 | ⟨j1, e1, hj1⟩
      · exact .inl (e.trans e1)
      · exact .inr ⟨j1, e.trans e1, hj1⟩
    · exact .inr ⟨j, e, Nat.le_trans h.grown.size hj⟩
theorem GrownV.alloc (w : World) (v : Value) (o : Obj) : GrownV w (w.alloc o) v v := ⟨World.grownBy_alloc w o _, .inl rfl⟩
/-- All that was there below B stays. -/
theorem GrownV.below {B n : Nat} {w w' : World} {v v' : Value} {f : Nat → BitVec 8} (h : GrownV w w' v v') (ho : Own B v n f w) : Below B w w' :=
  (Below.refl B w).grown h.grown ho.base (fun _ hk => (ho.lt hk).1)
/-- A block that isn't v's stays. -/
theorem GrownV.block {w w' : World} {v v' : Value} {k : Nat} (h : GrownV w w' v v') (hk : k < w.heap.size) (hne : v.ownBlock ≠ some k) : w'.heap[k]? = w.heap[k]? := h.grown.block k hk (fun e => hne e.symm)
theorem byteCells_str (g : Nat → BitVec 8) (m : Nat) : byteCells (strOf g m) = firsts g m := by
  unfold byteCells strOf strL firsts
  simp [n8_u8]
theorem src_str (g : Nat → BitVec 8) (m : Nat) (w : World) : Src Tryd.prog 1 9 (.string (strOf g m)) m (firsts g m) w := by
  have h := Src.ofString (P := Tryd.prog) w (tx := 9) (by kernel_rfl) (strOf g m)
  rw [byteCells_str, strOf_size] at h
  exact h
theorem src_bytes (g : Nat → BitVec 8) (b o m c : Nat) (w : World) (hc : ∀ i, i < m → w.cell? ⟨b, o + i, none⟩ = some (.int .u8 (n8 (g i)))) : Src Tryd.prog 1 29 (.slice (some ⟨b, o, none⟩) m c) m (firsts g m) w :=
  Src.ofSlice w under_bytes ⟨b, o, none⟩ m c (firsts g m) (by rw [firsts_len, Nat.mul_one]) (fun j u hj => by
    have hj' : j < m := by have := (List.getElem?_eq_some_iff.1 hj).1; rwa [firsts_len] at this
    have hu : u = .int .u8 (n8 (g j)) := by rw [firsts_get _ _ _ hj'] at hj; injection hj with hj; exact hj.symm
    rw [hu, show ((⟨b, o, none⟩ : Addr).add j) = ⟨b, o + j, none⟩ from by unfold Addr.add; split <;> simp_all]
    exact hc j hj') (firsts_one g m)
/-- One byte that has just been laid. -/
theorem src_one_new (w : World) (x : BitVec 8) : Src Tryd.prog 1 29 (.slice (some ⟨w.heap.size, 0, none⟩) 1 1) 1 (firsts (fun _ => x) 1) (w.alloc (.cells #[.int .u8 (n8 x)] 5)) :=
  src_bytes (fun _ => x) w.heap.size 0 1 1 _ (fun i hi => by
    obtain rfl : i = 0 := by omega
    rw [cell_of_row _ _ _ _ _ _ (heap_alloc_last w _)]
    rfl)
theorem src_none (g : Nat → BitVec 8) (c : Nat) (w : World) : Src Tryd.prog 1 29 (.slice none 0 c) 0 (firsts g 0) w := Src.ofNil w under_bytes c
theorem setCells_grown (g o : Nat) (vs : List Value) (w : World) : w.grownBy (w.setCells g o vs) (some g) := by
  have hb := setCells_below 0 g (Nat.zero_le _) vs o w w (Below.refl _ _)
  exact ⟨hb.os, hb.tape, hb.output, by rw [setCells_size]; exact Nat.le_refl _, fun k hk hne => setCells_other g k (fun e => hne (by rw [e])) vs o w⟩
/-- MORE BYTES BEHIND WHAT IS OWNED. -/
theorem run_append_bytes {B n m : Nat} {v x : Value} {f g : Nat → BitVec 8} {w : World} {tx : TypeId} (ty : TypeId) (h : Own B v n f w) (hs : Src Tryd.prog 1 tx x m (firsts g m) w) (hnm : n + m ≤ 200000000000000) :
    ∃ v' w', (Builtin.append_ #[29, tx] ty #[v, x]).run Tryd.prog w = .ok v' w' ∧ Own B v' (n + m) (joinb f n g) w' ∧ GrownV w w' v v' := by
  obtain ⟨i, hi, hz, hsz, hby⟩ := info_u8'
  have hs' : Src Tryd.prog i.size tx x m (firsts g m) w := by rw [hsz]; exact hs
  have hm63 : n + m ≤ maxLen := by unfold maxLen; omega
  have grown : ∀ (base : Option Addr) (sCap : Nat), sCap < n + m → (Builtin.firstCells i.size n (.slice base n sCap)).run Tryd.prog w.drew = .ok (firsts f n).toArray w.drew → v = .slice base n sCap →
      ∃ v' w', (Builtin.append_ #[29, tx] ty #[v, x]).run Tryd.prog w = .ok v' w' ∧ Own B v' (n + m) (joinb f n g) w' ∧ GrownV w w' v v' := by
    intro base sCap hlt hold hv
    subst hv
    have hr := run_append_grow_src (P := Tryd.prog) w 29 tx ty 5 i _ under_bytes hi hz base n sCap (firsts f n) hold x m (firsts g m) hs' hlt (by omega) (growslice_fits_wide hlt (by rw [hby]; omega))
    refine ⟨_, _, hr, ⟨⟨by rw [firsts_len, Nat.mul_one], .inr ⟨w.heap.size, _, _, rfl, h.base, heap_alloc_new w.drew _, grownCap_ge _ _ _ _, grownCap_le_maxLen _ _ _ _ hm63, ?_, ?_⟩⟩, by simp; exact Nat.le_succ_of_le h.base⟩, ?_⟩
    · have hge := grownCap_ge w (n + m) sCap 5
      simp only [Array.size_append, List.size_toArray, size_zeroCells, List.length_append, firsts_len, Value.cells]
      simp
      omega
    · rw [firsts_append]
      simp only [Array.toList_append, Nat.mul_one]
      have : (firsts (joinb f n g) (n + m)).length = n + m := firsts_len _ _
      rw [List.take_left' this]
    · exact ⟨⟨rfl, rfl, rfl, by simp, fun k hk _ => Below.heap_alloc w.drew _ k hk⟩, .inr ⟨w.heap.size, rfl, Nat.le_refl _⟩⟩
  rcases h.row.2 with ⟨rfl, rfl⟩ | ⟨b, cap, cur, rfl, hB, hg, hnc, hcm, hcs, ht⟩
  · by_cases hm : m = 0
    · subst hm
      refine ⟨_, _, run_append_nothing (P := Tryd.prog) w 29 tx ty 5 i under_bytes hi none 0 0 (Nat.le_refl _) x hs', Own.nil _ _ _ h.base, GrownV.refl _ _⟩
    · exact grown none 0 (by omega) (run_firstCells_none w.drew _ _ _ _) rfl
  · by_cases hroom : n + m ≤ cap
    · have hsize : cur.size = cap := by rw [hcs, Nat.mul_one]
      have hr := run_append_room_src (P := Tryd.prog) w 29 tx ty 5 i under_bytes hi b 0 n cap x m (firsts g m) hs' hroom
        (fun j hj => by rw [firsts_len] at hj; rw [cell_of_row _ _ _ _ _ _ hg, hsz, Array.getElem?_eq_getElem (by omega)]; rfl) (fun j _ => frozen_of_row _ _ _ _ _ hg)
      rw [hsz] at hr
      simp only [Nat.zero_add, Nat.mul_one] at hr
      obtain ⟨cs', h1, h2, h3⟩ := setCells_row b 5 (firsts g m) n w cur hg
      have hgr := setCells_grown b n (firsts g m) w
      refine ⟨_, _, hr, ⟨⟨by rw [firsts_len, Nat.mul_one], .inr ⟨b, cap, cs', rfl, hB, h1, hroom, hcm, by rw [h2, hcs], ?_⟩⟩, Nat.le_trans h.base hgr.size⟩, hgr, .inl rfl⟩
      apply List.ext_getElem?
      intro j
      rw [Nat.mul_one]
      by_cases hj : j < n + m
      · rw [List.getElem?_take, if_pos hj, firsts_get _ _ _ hj, Array.getElem?_toList, h3, firsts_len]
        by_cases hjn : n ≤ j
        · rw [if_pos ⟨hjn, hj, by omega⟩, firsts_get _ _ _ (by omega)]
          simp [joinb, show ¬ j < n by omega]
        · rw [if_neg (by omega)]
          have := congrArg (·[j]?) ht
          simp only [Nat.mul_one, List.getElem?_take, show j < n by omega, if_true] at this
          rw [Array.getElem?_toList] at this
          rw [this, firsts_get _ _ _ (by omega)]
          simp [joinb, show j < n by omega]
      · rw [List.getElem?_eq_none (by rw [List.length_take]; omega), List.getElem?_eq_none (by rw [firsts_len]; omega)]
    · refine grown (some ⟨b, 0, none⟩) cap (by omega) ?_ rfl
      rw [hsz]
      exact run_firstCells_some w.drew 1 n ⟨b, 0, none⟩ n cap (firsts f n) (by rw [firsts_len, Nat.mul_one]) (fun j u hj => by
        have := h.row.cells (g := b) rfl j u hj
        simpa using this)
theorem wpList_append_bytes {ops : Array Oper} {rest : List Oper} {o : Oper} {a : Act} {w : World} {Q : Exit → Act → World → Prop} (hgd : o.guard = none) (s x : Operand) (tx : TypeId)
    (ho : o.op = .call { callee := .builtin .append, args := #[s, x], argTypes := #[29, tx] })
    {B n m : Nat} {v xv : Value} {f g : Nat → BitVec 8} (hs : a.eval s = v) (hx : a.eval x = xv) (h : Own B v n f w) (hsrc : Src Tryd.prog 1 tx xv m (firsts g m) w) (hnm : n + m ≤ 200000000000000)
    (hk : ∀ v' w', Own B v' (n + m) (joinb f n g) w' → GrownV w w' v v' → wpList Tryd.prog ops Q rest (a.put o.dst v') w') : wpList Tryd.prog ops Q (o :: rest) a w :=
  wpList_plain hgd fun _ hK => by
    obtain ⟨v', w', hr, h2, h3⟩ := run_append_bytes o.type h hsrc hnm
    unfold Oper.wp execOp
    simp only [ho, resolve, invoke, builtin, Sem.run_bind, Sem.run_pure, Result.andThen_ok, List.map_toArray, List.map_cons, List.map_nil, hs, hx, hr]
    exact hK _ _ (hk v' w' h2 h3)
/-- The empty row that '[]byte' braces make. -/
theorem Own.empty {B : Nat} (f : Nat → BitVec 8) (w : World) (hB : B ≤ w.heap.size) : Own B (.slice (some ⟨w.heap.size, 0, none⟩) 0 0) 0 f (w.alloc (.cells #[] 5)) :=
  ⟨World.ownsRow_made w #[] 0 hB (by decide) rfl, by simp; exact Nat.le_succ_of_le hB⟩
theorem step_append_bytes {ops : Array Oper} {o : Oper} {a : Act} {w : World} {K : Act → World → Prop} {Q : Exit → Act → World → Prop} {E : Prop} (hgd : o.guard = none) (s x : Operand) (tx : TypeId)
    (ho : o.op = .call { callee := .builtin .append, args := #[s, x], argTypes := #[29, tx] })
    {B n m : Nat} {v xv : Value} {f g : Nat → BitVec 8} (hs : a.eval s = v) (hx : a.eval x = xv) (h : Own B v n f w) (hsrc : Src Tryd.prog 1 tx xv m (firsts g m) w) (hnm : n + m ≤ 200000000000000)
    (hk : ∀ v' w', Own B v' (n + m) (joinb f n g) w' → GrownV w w' v v' → K (a.put o.dst v') w') : if Region.wanted o (yielded ops a.tmps) = true then Oper.wp Tryd.prog o a w K Q else E := by
  have hw : Region.wanted o (yielded ops a.tmps) = true := by simp [Region.wanted, hgd]
  rw [if_pos hw]
  obtain ⟨v', w', hr, h2, h3⟩ := run_append_bytes o.type h hsrc hnm
  unfold Oper.wp execOp
  simp only [ho, resolve, invoke, builtin, Sem.run_bind, Sem.run_pure, Result.andThen_ok, List.map_toArray, List.map_cons, List.map_nil, hs, hx, hr]
  exact hk v' w' h2 h3
theorem Own.bytesIn {B n : Nat} {v : Value} {f : Nat → BitVec 8} {w : World} (h : Own B v n f w) (hn : 0 < n) : ∃ g cap, v = .slice (some ⟨g, 0, none⟩) n cap ∧ n ≤ cap ∧ cap ≤ maxLen ∧ BytesIn w (some ⟨g, 0, none⟩) n f := by
  obtain ⟨g, cap, rfl, hnc, hcm, _, hlt, hc⟩ := own_slice hn h.row
  exact ⟨g, cap, rfl, hnc, hcm, Nat.le_trans hnc hcm, .inr ⟨g, 0, rfl, hlt, fun i hi => by rw [Nat.zero_add]; exact hc i hi⟩⟩
theorem bytesIn_later {w w1 : World} {a : Option Addr} {n : Nat} {f : Nat → BitVec 8} (h : BytesIn w a n f) (hb : Below w.heap.size w w1) : BytesIn w1 a n f :=
  ⟨h.1, h.2.imp id fun ⟨b, o, ha, hlt, hc⟩ => ⟨b, o, ha, Nat.lt_of_lt_of_le hlt hb.size, fun i hi => by rw [hb.cell (p := ⟨b, o + i, none⟩) hlt]; exact hc i hi⟩⟩
/-- Bytes that came in, as what is appended. -/
theorem src_in {w : World} {a : Option Addr} {n : Nat} {f : Nat → BitVec 8} (h : BytesIn w a n f) (c : Nat) : Src Tryd.prog 1 29 (.slice a n c) n (firsts f n) w := by
  rcases h.2 with rfl | ⟨b, o, rfl, _, hc⟩
  · cases a with
    | none => exact src_none f c w
    | some x => exact Src.ofSlice w under_bytes x 0 c [] (by simp) (fun j u h => by simp at h) (fun u h => by cases h)
  · exact src_bytes f b o n c w hc
theorem Own.drew {B n : Nat} {v : Value} {f : Nat → BitVec 8} {w : World} (h : Own B v n f w) : Own B v n f w.drew := h.later (Below.refl _ _).drew
end Go.Proofs.YtddpfbeclmgndaaDoor
