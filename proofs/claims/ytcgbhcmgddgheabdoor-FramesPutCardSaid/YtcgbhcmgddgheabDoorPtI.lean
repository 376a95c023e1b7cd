/-
  PARTS THAT THE CALL PUTS TOGETHER ITSELF: a slice of parts (numbers) that it owns; appended to.
-/
import Derived.Test.YtcgbhcmgddgheabDoorRowKit
import Derived.Test.YtcgbhcmgddgheabDoorRowIn
import Derived.Deep.AppendSrc
import Derived.Deep.Upon
import Derived.Deep.DeepAppendWide
import Derived.Below
import Derived.Deep.MidRow
import Derived.WalkKit
import Derived.WideLaws
namespace Go.Proofs.YtcgbhcmgddgheabDoor
open Go Go.RowKit
set_option linter.unusedSimpArgs false
set_option linter.unusedVariables false
def IT : TypeId := 60
theorem under_ints : Tryd.prog.underlying 56 = some (.slice 60) := by kernel_rfl
theorem info_ints : ∃ i0, Tryd.prog.info? 60 = some i0 ∧ i0.zero = some (.int .i64 0) ∧ i0.size = 1 ∧ i0.bytes = 8 := by
  have h : (Tryd.prog.info? 60).map (fun i => (i.zero, i.size, i.bytes)) = some (some (.int .i64 0), 1, 8) := by kernel_rfl
  cases hq : Tryd.prog.info? 60 with
  | none => rw [hq] at h; cases h
  | some i =>
    rw [hq] at h
    simp only [Option.map_some, Option.some.injEq, Prod.mk.injEq] at h
    exact ⟨i, rfl, h.1, h.2.1, h.2.2⟩
def cellsI (G : List Int) : List Value := G.map (Value.int .i64)
theorem cellsI_len (G : List Int) : (cellsI G).length = G.length := by simp [cellsI]
theorem cellsI_get (G : List Int) (i : Nat) : (cellsI G)[i]? = (G[i]?).map (Value.int .i64) := by simp [cellsI]
theorem cellsI_one (G : List Int) : ∀ u ∈ cellsI G, u.oneCell' = true := by
  intro u hu
  obtain ⟨x, _, rfl⟩ := List.mem_map.1 hu
  rfl
/-- v is a slice of the numbers G, in a block of one's own from block B on. -/
structure OwnI (B : Nat) (v : Value) (G : List Int) (w : World) : Prop where
  row : (v = .slice none 0 0 ∧ G = []) ∨ ∃ g o cap, ∃ cur : Array Value, v = .slice (some ⟨g, o, none⟩) G.length cap ∧ B ≤ g ∧ w.heap[g]? = some (.cells cur 60 (0, 0)) ∧ G.length ≤ cap ∧ cap ≤ maxLen ∧ o + cap ≤ cur.size ∧ ∀ i x, G[i]? = some x → cur[o + i]? = some (.int .i64 x)
  base : B ≤ w.heap.size
theorem OwnI.nil (B : Nat) (w : World) (hB : B ≤ w.heap.size) : OwnI B (.slice none 0 0) [] w := ⟨.inl ⟨rfl, rfl⟩, hB⟩
theorem OwnI.lt {B k : Nat} {v : Value} {G : List Int} {w : World} (h : OwnI B v G w) (hk : v.ownBlock = some k) : B ≤ k ∧ k < w.heap.size := by
  rcases h.row with ⟨rfl, _⟩ | ⟨g, o, cap, cur, rfl, hB, hg, _⟩
  · cases hk
  · injection hk with hk; subst hk; exact ⟨hB, lt_row hg⟩
/-- Other blocks may change. -/
theorem OwnI.kept {B : Nat} {v : Value} {G : List Int} {w w' : World} (h : OwnI B v G w) (hs : w.heap.size ≤ w'.heap.size) (hk : ∀ g, v.ownBlock = some g → g < w.heap.size → w'.heap[g]? = w.heap[g]?) : OwnI B v G w' := by
  refine ⟨?_, Nat.le_trans h.base hs⟩
  rcases h.row with h1 | ⟨g, o, cap, cur, rfl, hB, hg, r⟩
  · exact .inl h1
  · exact .inr ⟨g, o, cap, cur, rfl, hB, (hk g rfl (lt_row hg)).trans hg, r⟩
theorem OwnI.slice {B : Nat} {v : Value} {G : List Int} {w : World} (h : OwnI B v G w) : ∃ a cap, v = .slice a G.length cap := by
  rcases h.row with ⟨rfl, rfl⟩ | ⟨g, o, cap, cur, rfl, _⟩
  · exact ⟨_, _, rfl⟩
  · exact ⟨_, _, rfl⟩
theorem OwnI.at {B i : Nat} {v : Value} {G : List Int} {w : World} (h : OwnI B v G w) (hi : i < G.length) : ∃ g o cap, v = .slice (some ⟨g, o, none⟩) G.length cap ∧ w.cell? ⟨g, o + i, none⟩ = some (.int .i64 G[i]) := by
  rcases h.row with ⟨rfl, rfl⟩ | ⟨g, o, cap, cur, rfl, hB, hg, h1, h2, h3, h4⟩
  · simp at hi
  · exact ⟨g, o, cap, rfl, by rw [cell_of_row _ _ _ _ _ _ hg]; exact h4 i _ (List.getElem?_eq_getElem hi)⟩
/-- Numbers in a row are a source. -/
theorem src_ints (G : List Int) (b o c : Nat) (w : World) (hc : ∀ i x, G[i]? = some x → w.cell? ⟨b, o + i, none⟩ = some (.int .i64 x)) : Src Tryd.prog 1 56 (.slice (some ⟨b, o, none⟩) G.length c) G.length (cellsI G) w :=
  Src.ofSlice w under_ints ⟨b, o, none⟩ G.length c (cellsI G) (by rw [cellsI_len, Nat.mul_one]) (fun j u hj => by
    rw [cellsI_get] at hj
    obtain ⟨x, hx, rfl⟩ := Option.map_eq_some_iff.1 hj
    rw [show ((⟨b, o, none⟩ : Addr).add j) = ⟨b, o + j, none⟩ from by unfold Addr.add; split <;> simp_all]
    exact hc j x hx) (cellsI_one G)
theorem src_no_ints (c : Nat) (w : World) : Src Tryd.prog 1 56 (.slice none 0 c) 0 (cellsI []) w := Src.ofNil w under_ints c
theorem src_int_new (w : World) (x : Int) : Src Tryd.prog 1 56 (.slice (some ⟨w.heap.size, 0, none⟩) 1 1) 1 (cellsI [x]) (w.alloc (.cells #[.int .i64 x] 60)) :=
  src_ints [x] w.heap.size 0 1 _ (fun i y hy => by
    rw [cell_of_row _ _ _ _ _ _ (heap_alloc_last w _)]
    cases i with
    | zero => simpa using hy
    | succ i => simp at hy)
theorem OwnI.src {B : Nat} {v : Value} {G : List Int} {w : World} (h : OwnI B v G w) : Src Tryd.prog 1 56 v G.length (cellsI G) w := by
  rcases h.row with ⟨rfl, rfl⟩ | ⟨g, o, cap, cur, rfl, hB, hg, h1, h2, h3, h4⟩
  · exact src_no_ints 0 w
  · exact src_ints G g o cap w (fun i x hx => by rw [cell_of_row _ _ _ _ _ _ hg]; exact h4 i x hx)
/-- What append leaves: v's own block may have changed, and there may be a new one. -/
structure GrewI (w w' : World) (v v' : Value) : Prop where
  size : w.heap.size ≤ w'.heap.size
  block : ∀ k, k < w.heap.size → v.ownBlock ≠ some k → w'.heap[k]? = w.heap[k]?
  below : ∀ B, B ≤ w.heap.size → (∀ k, v.ownBlock = some k → B ≤ k) → Below B w w'
set_option maxHeartbeats 1000000 in
/-- MORE NUMBERS BEHIND WHAT IS OWNED. -/
theorem run_append_ints {B : Nat} {v x : Value} {G H : List Int} {w : World} {tx : TypeId} (ty : TypeId) (h : OwnI B v G w) (hs : Src Tryd.prog 1 tx x H.length (cellsI H) w) (hnm : G.length + H.length ≤ 20000000000000) :
    ∃ v' w', (Builtin.append_ #[56, tx] ty #[v, x]).run Tryd.prog w = .ok v' w' ∧ OwnI B v' (G ++ H) w' ∧ GrewI w w' v v' := by
  obtain ⟨i, hi, hz, hsz, hby⟩ := info_ints
  have hs' : Src Tryd.prog i.size tx x H.length (cellsI H) w := by rw [hsz]; exact hs
  have hm63 : G.length + H.length ≤ maxLen := by unfold maxLen; omega
  have grown : ∀ (base : Option Addr) (sCap : Nat), sCap < G.length + H.length → (Builtin.firstCells i.size G.length (.slice base G.length sCap)).run Tryd.prog w.drew = .ok (cellsI G).toArray w.drew → v = .slice base G.length sCap →
      ∃ v' w', (Builtin.append_ #[56, tx] ty #[v, x]).run Tryd.prog w = .ok v' w' ∧ OwnI B v' (G ++ H) w' ∧ GrewI w w' v v' := by
    intro base sCap hlt hold hv
    subst hv
    have hr := run_append_grow_src (P := Tryd.prog) w 56 tx ty 60 i _ under_ints hi hz base G.length sCap (cellsI G) hold x H.length (cellsI H) hs' hlt (by omega) (growslice_fits_wide hlt (by rw [hby]; omega))
    have hge := grownCap_ge w (G.length + H.length) sCap 60
    have hle := grownCap_le_maxLen w (G.length + H.length) sCap 60 hm63
    refine ⟨_, _, hr, ⟨.inr ⟨w.heap.size, 0, _, _, by rw [List.length_append], h.base, heap_alloc_new w.drew _, by rw [List.length_append]; exact hge, hle, ?_, ?_⟩, by simp; exact Nat.le_succ_of_le h.base⟩, ?_⟩
    · simp only [Array.size_append, List.size_toArray, size_zeroCells, List.length_append, cellsI_len, Value.cells]
      simp
      omega
    · intro j y hy
      have hj : j < (G ++ H).length := (List.getElem?_eq_some_iff.1 hy).1
      rw [Nat.zero_add, Array.getElem?_append_left (by simp [cellsI_len]; simpa using hj)]
      have e : cellsI G ++ cellsI H = cellsI (G ++ H) := by simp [cellsI]
      rw [e]
      show (cellsI (G ++ H)).toArray[j]? = _
      rw [List.getElem?_toArray, cellsI_get, hy]; rfl
    · refine ⟨by simp, fun k hk _ => Below.heap_alloc w.drew _ k hk, fun B' hB' _ => ((Below.refl B' w).drew).alloc hB' _⟩
  rcases h.row with ⟨rfl, rfl⟩ | ⟨b, o, cap, cur, rfl, hB, hg, h1, h2, h3, h4⟩
  · by_cases hm : H = []
    · subst hm
      refine ⟨_, _, run_append_nothing (P := Tryd.prog) w 56 tx ty 60 i under_ints hi none 0 0 (Nat.le_refl _) x hs', OwnI.nil _ _ h.base, ⟨Nat.le_refl _, fun _ _ _ => rfl, fun _ _ _ => Below.refl _ _⟩⟩
    · exact grown none 0 (by have := List.length_pos_iff.2 hm; simp; omega) (run_firstCells_none w.drew _ _ _ _) rfl
  · by_cases hroom : G.length + H.length ≤ cap
    · have hr := run_append_room_src (P := Tryd.prog) w 56 tx ty 60 i under_ints hi b o G.length cap x H.length (cellsI H) hs' hroom
        (fun j hj => by rw [cellsI_len] at hj; rw [cell_of_row _ _ _ _ _ _ hg, hsz, Nat.mul_one, Array.getElem?_eq_getElem (by omega)]; rfl) (fun j _ => frozen_of_row _ _ _ _ _ hg)
      rw [hsz] at hr
      simp only [Nat.mul_one] at hr
      obtain ⟨cs', q1, q2, q3⟩ := setCells_row b 60 (cellsI H) (o + G.length) w cur hg
      have hsize := setCells_size b (cellsI H) (o + G.length) w
      refine ⟨_, _, hr, ⟨.inr ⟨b, o, cap, cs', by rw [List.length_append], hB, q1, by rw [List.length_append]; exact hroom, h2, by omega, ?_⟩, by rw [hsize]; exact h.base⟩, ⟨by rw [hsize]; exact Nat.le_refl _, fun k hk hne => setCells_other b k (fun e => hne (by rw [e]; rfl)) _ _ _, fun B' hB' hB2 => setCells_below B' b (hB2 b rfl) _ _ _ _ (Below.refl _ _)⟩⟩
      intro j y hy
      have hj : j < (G ++ H).length := (List.getElem?_eq_some_iff.1 hy).1
      rw [List.length_append] at hj
      rw [q3, cellsI_len]
      by_cases hjn : j < G.length
      · rw [if_neg (by omega)]
        rw [List.getElem?_append_left hjn] at hy
        exact h4 j y hy
      · rw [if_pos ⟨by omega, by omega, by omega⟩, show o + j - (o + G.length) = j - G.length by omega, cellsI_get]
        rw [List.getElem?_append_right (by omega)] at hy
        rw [hy]; rfl
    · exact grown (some ⟨b, o, none⟩) cap (by omega) (run_firstCells_some w.drew _ G.length ⟨b, o, none⟩ G.length cap (cellsI G) (by rw [cellsI_len, hsz, Nat.mul_one]) (fun j u hj => by
        rw [cellsI_get] at hj
        obtain ⟨y, hy, rfl⟩ := Option.map_eq_some_iff.1 hj
        rw [show ((⟨b, o, none⟩ : Addr).add j) = ⟨b, o + j, none⟩ from by unfold Addr.add; split <;> simp_all]
        show w.cell? _ = _
        rw [cell_of_row _ _ _ _ _ _ hg]
        exact h4 j y hy)) rfl
theorem wpList_append_ints {ops : Array Oper} {rest : List Oper} {o : Oper} {a : Act} {w : World} {Q : Exit → Act → World → Prop} (hgd : o.guard = none) (s x : Operand)
    (ho : o.op = .call { callee := .builtin .append, args := #[s, x], argTypes := #[56, 56] })
    {B : Nat} {v xv : Value} {G H : List Int} (hs : a.eval s = v) (hx : a.eval x = xv) (h : OwnI B v G w) (hsrc : Src Tryd.prog 1 56 xv H.length (cellsI H) w) (hnm : G.length + H.length ≤ 20000000000000)
    (hk : ∀ v' w', OwnI B v' (G ++ H) w' → GrewI w w' v v' → wpList Tryd.prog ops Q rest (a.put o.dst v') w') : wpList Tryd.prog ops Q (o :: rest) a w :=
  wpList_plain hgd fun _ hK => by
    obtain ⟨v', w', hr, h2, h3⟩ := run_append_ints o.type h hsrc hnm
    unfold Oper.wp execOp
    simp only [ho, resolve, invoke, builtin, Sem.run_bind, Sem.run_pure, Result.andThen_ok, List.map_toArray, List.map_cons, List.map_nil, hs, hx, hr]
    exact hK _ _ (hk v' w' h2 h3)
theorem step_append_ints {ops : Array Oper} {o : Oper} {a : Act} {w : World} {K : Act → World → Prop} {Q : Exit → Act → World → Prop} {E : Prop} (hgd : o.guard = none) (s x : Operand)
    (ho : o.op = .call { callee := .builtin .append, args := #[s, x], argTypes := #[56, 56] })
    {B : Nat} {v xv : Value} {G H : List Int} (hs : a.eval s = v) (hx : a.eval x = xv) (h : OwnI B v G w) (hsrc : Src Tryd.prog 1 56 xv H.length (cellsI H) w) (hnm : G.length + H.length ≤ 20000000000000)
    (hk : ∀ v' w', OwnI B v' (G ++ H) w' → GrewI w w' v v' → K (a.put o.dst v') w') : if Region.wanted o (yielded ops a.tmps) = true then Oper.wp Tryd.prog o a w K Q else E := by
  have hw : Region.wanted o (yielded ops a.tmps) = true := by simp [Region.wanted, hgd]
  rw [if_pos hw]
  obtain ⟨v', w', hr, h2, h3⟩ := run_append_ints o.type h hsrc hnm
  unfold Oper.wp execOp
  simp only [ho, resolve, invoke, builtin, Sem.run_bind, Sem.run_pure, Result.andThen_ok, List.map_toArray, List.map_cons, List.map_nil, hs, hx, hr]
  exact hk v' w' h2 h3
/-- From a place on: the slice of the rest; at its very end the address stays. -/
theorem run_front (b o k m c : Nat) (hk : k ≤ m) (hm : m ≤ c) : ∃ o', (o' = o + k ∨ c = k) ∧ o' ≤ o + k ∧ ∀ w : World, (Instr.sliceAt 56 (.slice (some ⟨b, o, none⟩) m c) (some (.int .i64 (k : Int))) none none).run Tryd.prog w = .ok (.slice (some ⟨b, o', none⟩) (m - k) (c - k)) w := by
  have hu : Tryd.prog.underlying 56 = some (.slice (Tryd.prog.elem 56)) := by kernel_rfl
  have h0 : (0 : Int) ≤ (k : Int) := by omega
  have h1 : (k : Int) ≤ (m : Int) := by omega
  have h2 : (m : Int) ≤ (c : Int) := by omega
  have e : ((⟨b, o, none⟩ : Addr).add k) = ⟨b, o + k, none⟩ := by unfold Addr.add; split <;> simp_all
  by_cases hc : c = k
  · refine ⟨o, .inr hc, by omega, fun w => ?_⟩
    rw [run_sliceAt_slice (t := 56) (h := hu), run_slice_any (t := 56) (ht := hu)]
    simp [Instr.sliceBounds, go_sem, h0, h1, h2, hc, e]
  · refine ⟨o + k, .inl rfl, Nat.le_refl _, fun w => ?_⟩
    rw [run_sliceAt_slice (t := 56) (h := hu), run_slice_any (t := 56) (ht := hu)]
    simp [Instr.sliceBounds, go_sem, h0, h1, h2, hc, e]
theorem OwnI.front {B k : Nat} {v : Value} {G : List Int} {w : World} (h : OwnI B v G w) (hk : k ≤ G.length) (hG : 0 < G.length) : ∃ v', (∀ w' : World, (Instr.sliceAt 56 v (some (.int .i64 (k : Int))) none none).run Tryd.prog w' = .ok v' w') ∧ OwnI B v' (G.drop k) w ∧ v'.ownBlock = v.ownBlock := by
  rcases h.row with ⟨rfl, rfl⟩ | ⟨g, o, cap, cur, rfl, hB, hg, h1, h2, h3, h4⟩
  · simp at hG
  · obtain ⟨o', ho, ho2, hrun⟩ := run_front g o k G.length cap hk h1
    refine ⟨.slice (some ⟨g, o', none⟩) (G.length - k) (cap - k), hrun, ⟨.inr ⟨g, o', cap - k, cur, by rw [List.length_drop], hB, hg, by rw [List.length_drop]; omega, by omega, by omega, fun i x hx => ?_⟩, h.base⟩, rfl⟩
    have hi : i < (G.drop k).length := (List.getElem?_eq_some_iff.1 hx).1
    rw [List.length_drop] at hi
    have hoo : o' = o + k := by rcases ho with ho | ho <;> omega
    subst hoo
    rw [List.getElem?_drop] at hx
    rw [Nat.add_assoc]
    exact h4 (k + i) x hx
/-- The first ones. -/
theorem OwnI.upto {B k : Nat} {v : Value} {G : List Int} {w : World} (h : OwnI B v G w) (hk : k ≤ G.length) (hG : 0 < G.length) : ∃ g o cap, (∀ w' : World, (Instr.sliceAt 56 v none (some (.int .i64 (k : Int))) none).run Tryd.prog w' = .ok (.slice (some ⟨g, o, none⟩) k cap) w') ∧ v.ownBlock = some g ∧ ∀ i x, (G.take k)[i]? = some x → w.cell? ⟨g, o + i, none⟩ = some (.int .i64 x) := by
  rcases h.row with ⟨rfl, rfl⟩ | ⟨g, o, cap, cur, rfl, hB, hg, h1, h2, h3, h4⟩
  · simp at hG
  · have hu : Tryd.prog.underlying 56 = some (.slice (Tryd.prog.elem 56)) := by kernel_rfl
    have a0 : (0 : Int) ≤ (k : Int) := by omega
    have a1 : (k : Int) ≤ (cap : Int) := by omega
    refine ⟨g, o, cap, fun w' => ?_, rfl, fun i x hx => ?_⟩
    · rw [run_sliceAt_slice (t := 56) (h := hu), run_slice_any (t := 56) (ht := hu)]
      simp [Instr.sliceBounds, go_sem, a0, a1]
    · rw [cell_of_row _ _ _ _ _ _ hg]
      rw [List.getElem?_take] at hx
      split at hx
      · exact h4 i x hx
      · cases hx
end Go.Proofs.YtcgbhcmgddgheabDoor
