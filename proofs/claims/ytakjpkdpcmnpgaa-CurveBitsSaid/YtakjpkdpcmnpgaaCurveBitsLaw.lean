/-
  CurveBits holds: the number's lowest three bits, its two highest ones, and the point's highest bit don't count in Times of curve; nor does p, added to the point. No conditions.
-/
import Derived.Test.YtakjpkdpcmnpgaaRows
import Derived.Test.YtakjpkdpcmnpgaaCurveJ
import Derived.WalkKit
import Derived.ProofKit
import Derived.OpenShut
import Derived.ShutString
import Derived.ChangeOld
import Derived.Below
import Derived.Deep.DeepCutAuto
import Derived.Deep.Upon
import Derived.Deep.AppendSrc
import Derived.SizedLaws
namespace Go.Proofs.Ytakjpkdpcmnpgaa.curveBits
open Go Go.ChangeShapes Go.WideShapes Go.ChangeAt Go.RowKit Go.BigFrame
set_option linter.unusedVariables false
theorem own : ownKnob Try.prog.godebug = none := by kernel_rfl
theorem laidOut : laidOutB Try.prog = true := by kernel_rfl
def bend (F : Nat → BitVec 8) : Array Value := ((List.range 66).map fun i => .int .u8 (n8 (F i))).toArray
theorem bend_get (F : Nat → BitVec 8) (i : Nat) (h : i < 66) : (bend F)[i]? = some (.int .u8 (n8 (F i))) := by simp [bend, h]
theorem bend_size (F : Nat → BitVec 8) : (bend F).size = 66 := by simp [bend]
theorem bend_num (F : Nat → BitVec 8) : ((bend F).extract 0 (0 + 32)).toList = (b32 F).toList := by
  apply List.ext_getElem?
  intro i
  by_cases h : i < 32
  · have h2 : i < 66 := by omega
    simp [bend, b32, h, h2]
  · simp [bend, b32, h]
    try omega
theorem bend_pt (F : Nat → BitVec 8) : ((bend F).extract 32 (32 + 32)).toList = (b32 fun i => F (32 + i)).toList := by
  apply List.ext_getElem?
  intro i
  by_cases h : i < 32
  · have h2 : 32 + i < 66 := by omega
    simp [bend, b32, h, h2]
  · simp [bend, b32, h]
    try omega
theorem range_num {w : World} {b : Nat} {F : Nat → BitVec 8} {t : TypeId} (h : w.heap[b]? = some (.cells (bend F) t (0, 0))) : w.rangeAt b 0 (b32 F).toList := by
  rw [← bend_num]; exact World.rangeAt_of_block h 0 32
theorem range_pt {w : World} {b : Nat} {F : Nat → BitVec 8} {t : TypeId} (h : w.heap[b]? = some (.cells (bend F) t (0, 0))) : w.rangeAt b 32 (b32 fun i => F (32 + i)).toList := by
  rw [← bend_pt]; exact World.rangeAt_of_block h 32 32
theorem open_bend {H : Type} {enc : TypeId × Value → H} {w : World} {base : Nat} {v : Value} {d : DataW H} {p : List MemPlace} (hk : Value.okWide Try.prog w .any base 33 v)
    (h : DataW.Trod enc Try.prog w 0 (fun _ => true) true 33 v d p) : ∃ F, v = .agg (bend F) := by
  obtain ⟨cs, rfl, hs⟩ := okWide_agg (by kernel_rfl) hk
  have hs66 : cs.size = 66 := hs.trans (by kernel_rfl)
  obtain ⟨fuel, hf⟩ := h
  have hc1 : Try.prog.cellsOf 5 = 1 := by kernel_rfl
  have hc32 : Try.prog.cellsOf 22 = 32 := by kernel_rfl
  obtain ⟨xs, k, _, _, _, hxl, hf⟩ := DataW.trod_struct Try.underlying33 hf
  have hxs : xs.length = 4 := hxl
  have g0 := hf 0 _ rfl
  have g1 := hf 1 _ rfl
  have g2 := hf 2 _ rfl
  have g3 := hf 3 _ rfl
  rw [List.getElem?_eq_getElem (by omega)] at g0 g1 g2 g3
  obtain ⟨F, hF⟩ := trod_bytes (n := 32) (e := 5) (by kernel_rfl) (by kernel_rfl) (by kernel_rfl) g0
  obtain ⟨G, hG⟩ := trod_bytes (n := 32) (e := 5) (by kernel_rfl) (by kernel_rfl) (by kernel_rfl) g1
  obtain ⟨x, hx, _, wx⟩ := DataW.trod_int (k := .u8) (by kernel_rfl) g2
  obtain ⟨y, hy, _, wy⟩ := DataW.trod_int (k := .u8) (by kernel_rfl) g3
  have byte : ∀ z : Int, (Lit.int .u8 z).wf = true → n8 (BitVec.ofInt 8 z) = z := fun z hz => by
    have h2 : ∀ b : BitVec 8, n8 b = (b.toNat : Int) := fun b => by unfold n8; rfl
    have h4 : IntKind.u8.min ≤ z ∧ z ≤ IntKind.u8.max := by simpa [Lit.wf] using hz
    have e1 : IntKind.u8.min = 0 := by decide
    have e2 : IntKind.u8.max = 255 := by decide
    rw [e1, e2] at h4
    rw [h2, BitVec.toNat_ofInt]
    omega
  have e64 : cs[64]? = some (.int .u8 x) := by
    have := congrArg (fun l => l[0]?) hx
    simpa [hc1, List.getElem?_take, Value.cells] using this
  have e65 : cs[65]? = some (.int .u8 y) := by
    have := congrArg (fun l => l[0]?) hy
    simpa [hc1, List.getElem?_take, Value.cells] using this
  refine ⟨fun i => if i < 32 then F i else if i < 64 then G (i - 32) else if i = 64 then BitVec.ofInt 8 x else BitVec.ofInt 8 y, ?_⟩
  congr 1
  apply Array.ext_getElem?
  intro i
  by_cases hi : i < 66
  · rw [bend_get _ i hi]
    by_cases h1 : i < 32
    · rw [if_pos h1]
      have := hF i h1
      simpa [hc32, List.getElem?_take, h1, Value.cells] using this
    · rw [if_neg h1]
      by_cases h2 : i < 64
      · rw [if_pos h2]
        have := hG (i - 32) (by omega)
        have e : 32 + (i - 32) = i := by omega
        have h3 : i - 32 < 32 := by omega
        simpa [hc32, List.getElem?_take, h3, e, Value.cells] using this
      · rw [if_neg h2]
        by_cases h3 : i = 64
        · rw [if_pos h3, byte x wx, h3]; exact e64
        · rw [if_neg h3, byte y wy, show i = 65 by omega]; exact e65
  · rw [Array.getElem?_eq_none (by omega), Array.getElem?_eq_none (by rw [bend_size]; omega)]
def Sx (F : Nat → BitVec 8) (b : Nat) (w : World) : Prop := w.heap[b]? = some (.cells (bend F) 33 (0, 0))
def GoodB (F g : Nat → BitVec 8) (wa : World) (kN kP : Nat) (w3 : World) : Prop := (Below wa.heap.size wa w3 ∧ w3.heap[kN]? = some (.cells (b32 F) 22 (0, 0)) ∧ w3.heap[kP]? = some (.cells (b32 g) 22 (0, 0))) ∧ wa.heap.size ≤ kN ∧ wa.heap.size ≤ kP ∧ kN ≠ kP
theorem run_load_mid {P : Program} {o : Oper} {a : Act} {w : World} (ty : TypeId) (x : Operand) (ho : o.op = .load ty x)
    (b k : Nat) (hx : a.eval x = .pointer (some ⟨b, k, none⟩)) (cs : List Value) (d : TypeDesc) (hc : w.rangeAt b k cs)
    (hu : P.underlying ty = some d) (hd : d.isRow = true) (hi : (P.info? ty).map (·.size) = some cs.length) : (execOp a.eval o).run P w = .ok (.value (.agg cs.toArray)) w := by
  unfold execOp
  simp only [ho, hx, Instr.loadAt, Instr.sureAddr, Sem.run_bind, Sem.run_pure, Result.andThen_ok, run_loadVar_mid w b k ty cs d hc hu hd hi]
theorem run_ne32 {o : Oper} {x y : Operand} (ho : o.op = .binOp .neq 22 x y 22) (a : Act) (w : World) {X Y : Array Value} (hx : a.eval x = .agg X) (hy : a.eval y = .agg Y) (h : (Op.equalIn 10000 22 (.agg X) (.agg Y)).run Try.prog w = .ok true w) :
    (execOp a.eval o).run Try.prog w = .ok (.value (.bool false)) w := by
  have e := h
  unfold execOp
  rw [ho]
  simp only [hx, hy]
  go_simp
theorem three_ways {α β γ : Type} {E : α → β → γ → Prop} {kk : α → β → γ → Prop} {G : Prop} (main : (∀ x y z, E x y z → kk x y z) → G) (key : ∀ x y z, E x y z → kk x y z) : G := main key
theorem step_alloc_row {P : Program} {op : Oper} {a : Act} {w : World} {K : Act → World → Prop} {Q : Exit → Act → World → Prop} (T : TypeId) (ho : op.op = .alloc T) (cs : Array Value) (hz : (P.info? T).map (·.zero) = some (some (.agg cs)))
    (h : K (a.put op.dst (.pointer (some ⟨w.heap.size, 0, none⟩))) (w.alloc (.cells cs T))) : Oper.wp P op a w K Q := by
  have hr : (execOp a.eval op).run P w = .ok (.value (.pointer (some ⟨w.heap.size, 0, none⟩))) (w.alloc (.cells cs T)) := by
    unfold execOp
    cases hq : P.info? T with
    | none => simp [hq] at hz
    | some x =>
      have hx : x.zero = some (.agg cs) := by simpa [hq] using hz
      simp only [ho]
      simp [Instr.alloc, zeroValue, typeInfo, hq, hx, go_sem, Sem.run_bind, Value.cells]
  unfold Oper.wp
  rw [hr]
  exact h
theorem step_store_row {P : Program} {op : Oper} {a : Act} {w : World} {K : Act → World → Prop} {Q : Exit → Act → World → Prop} (ty : TypeId) (x y : Operand) (ho : op.op = .store ty x y)
    (B : Nat) (T : TypeId) (cs cells : Array Value) (hx : a.eval x = .pointer (some ⟨B, 0, none⟩)) (hy : a.eval y = .agg cells)
    (hg : w.heap[B]? = some (.cells cs T (0, 0))) (hs : cs.size = cells.size) (hi : (P.info? ty).map (·.size) = some cells.size) (h1 : cells.all (·.oneCell') = true)
    (h : ∀ w', RowSet w B T cells w' → K (a.put op.dst undef) w') : Oper.wp P op a w K Q := by
  refine wp_store_mid ty x y ho B 0 cells hx hy (fun j hj => ?_) hi h1 (h _ (rowSet_store w B T cs cells hg hs))
  rw [Nat.zero_add]
  refine ⟨?_, frozen_of_row _ _ _ _ _ hg⟩
  rw [cell_of_row _ _ _ _ _ _ hg, Array.getElem?_eq_getElem (by omega)]
  rfl
/-- The number with bits turned that don't count. -/
def numT (f : Nat → BitVec 8) (lo hi : BitVec 8) (i : Nat) : BitVec 8 := if i = 0 then f 0 ^^^ (lo &&& 7#8) else if i = 31 then f 31 ^^^ (hi &&& 192#8) else f i
def ptT (g : Nat → BitVec 8) (lo : BitVec 8) (i : Nat) : BitVec 8 := if i = 31 then g 31 ^^^ (lo &&& 128#8) else g i
theorem bit_numT (f : Nat → BitVec 8) (lo hi : BitVec 8) (j : Nat) (hj : j ≤ 254) : Cv.bit (numT f lo hi) j = Cv.bit f j := by
  unfold Cv.bit numT
  by_cases h3 : j < 3
  · rw [decide_eq_true h3]; rfl
  · by_cases h4 : j = 254
    · rw [decide_eq_true h4, Bool.true_or, Bool.true_or]
    · by_cases h0 : j / 8 = 0
      · have e : ∀ i, i < 8 → 3 ≤ i → (7#8).getLsbD i = false := by decide
        rw [if_pos h0, BitVec.getLsbD_xor, BitVec.getLsbD_and, e (j % 8) (by omega) (by omega), Bool.and_false, Bool.xor_false, h0]
      · rw [if_neg h0]
        by_cases h1 : j / 8 = 31
        · have e : ∀ i, i < 6 → (192#8).getLsbD i = false := by decide
          rw [if_pos h1, BitVec.getLsbD_xor, BitVec.getLsbD_and, e (j % 8) (by omega), Bool.and_false, Bool.xor_false, h1]
        · rw [if_neg h1]
theorem num_congr (f g : Nat → BitVec 8) : ∀ n, (∀ i, i < n → f i = g i) → E5.num f n = E5.num g n
  | 0, _ => rfl
  | n + 1, h => by
    show E5.num f n + (f n).toNat * 256 ^ n = E5.num g n + (g n).toNat * 256 ^ n
    rw [num_congr f g n (fun i hi => h i (by omega)), h n (by omega)]
theorem top_bit : ∀ n, n < 256 → ∀ m, m < 256 → (BitVec.ofNat 8 n ^^^ (BitVec.ofNat 8 m &&& 128#8)).toNat % 128 = (BitVec.ofNat 8 n).toNat % 128 := by decide +kernel
theorem top_lem (N a b K : Nat) (hK : K = 2 ^ 248) (hN : N < K) (h : a % 128 = b % 128) : (N + a * K) % 2 ^ 255 = (N + b * K) % 2 ^ 255 := by
  subst hK
  omega
theorem pt_ptT (g : Nat → BitVec 8) (lo : BitVec 8) : ptF (ptT g lo) = ptF g := by
  have h1 : E5.num (ptT g lo) 31 = E5.num g 31 := num_congr _ _ 31 (fun i hi => if_neg (by omega))
  have h2 : E5.num (ptT g lo) 32 = E5.num (ptT g lo) 31 + (g 31 ^^^ (lo &&& 128#8)).toNat * 256 ^ 31 := rfl
  have h3 : E5.num g 32 = E5.num g 31 + (g 31).toNat * 256 ^ 31 := rfl
  have h4 := top_bit (g 31).toNat (g 31).isLt lo.toNat lo.isLt
  rw [BitVec.ofNat_toNat, BitVec.setWidth_eq, BitVec.ofNat_toNat, BitVec.setWidth_eq] at h4
  have h5 := top_lem (E5.num g 31) _ _ (256 ^ 31) (by decide) (E5.num_lt g 31) h4
  rw [h1] at h2
  unfold ptF
  exact congrArg Cv.fn (((congrArg (fun n => n % 2 ^ 255) h2).trans h5).trans (congrArg (fun n => n % 2 ^ 255) h3).symm)
theorem times_turned (f g : Nat → BitVec 8) (lo hi : BitVec 8) : timesN (numT f lo hi) (ptT g lo) = timesN f g := by
  rw [timesN_def, timesN_def, pt_ptT, Cv.out_congr _ _ _ (bit_numT f lo hi)]
def moreF (h : BitVec 8) (k i : Nat) : BitVec 8 := if i = 0 then 237#8 + h else if i < k then 255#8 else 0#8
def moreZ (h : BitVec 8) (i : Nat) : BitVec 8 := if i = 31 then 127#8 else moreF h 31 i
set_option maxRecDepth 100000 in
theorem pt_small : ∀ n, n < 19 → ptF (byteF (BitVec.ofNat 8 n)) = ptF (moreZ (BitVec.ofNat 8 n)) := by
  intro n hn
  apply Cv.ext
  unfold ptF
  rw [Cv.fn_val, Cv.fn_val]
  have : ∀ n, n < 19 → E5.num (byteF (BitVec.ofNat 8 n)) 32 % 2 ^ 255 % E5.p = E5.num (moreZ (BitVec.ofNat 8 n)) 32 % 2 ^ 255 % E5.p := by decide +kernel
  exact this n hn
theorem times_more (f : Nat → BitVec 8) (h : BitVec 8) (hh : h.toNat < 19) : timesN f (byteF h) = timesN f (moreZ h) := by
  have := pt_small h.toNat hh
  rw [BitVec.ofNat_toNat, BitVec.setWidth_eq] at this
  rw [timesN_def, timesN_def, this]
set_option maxHeartbeats 40000000 in
set_option maxRecDepth 100000 in
theorem law_core (F : Nat → BitVec 8) (w : World) :
    Calls Try.prog 5 #[.agg (bend F)] w fun e w' => e = .returned (.bool true) ∧ Below w.heap.size w w' := by
  go_enter Try.func5, Try.ntmps5
  go_upto_region 1 with (fail)
  have R0 : (w.alloc (.cells (bend F) 33)).heap[w.heap.size]? = some (.cells (bend F) 33 (0, 0)) := heap_alloc_last _ _
  have B0 : Below w.heap.size w (w.alloc (.cells (bend F) 33)) := below_new _
  generalize hW : w.alloc _ = wa at *
  clear hW
  have RX := Lib.hid R0; have BEL := Lib.hid B0
  clear R0 B0
  obtain ⟨f, hf⟩ : ∃ f, F = f := ⟨_, rfl⟩
  obtain ⟨g, hg⟩ : ∃ g, (fun i => F (32 + i)) = g := ⟨_, rfl⟩
  have HS : Hid (Sx F w.heap.size wa.drew) := Lib.hid RX.out
  apply three_ways (α := Nat) (β := Nat) (γ := World) (E := fun kN kP w3 => GoodB F g wa kN kP w3)
  case main =>
    intro key
    refine wp_region_held_drew (S := Sx F w.heap.size) mixedOrders HS.out (fun hHeld => ?_)
    clear hHeld
    refine wpAnyH_take (i := 0) (oi := ⟨some 8, _, _, _, _, _⟩) (v := .pointer (some ⟨w.heap.size, 0, none⟩)) rfl (by kernel_rfl) (by kernel_rfl) (by kernel_rfl) (fun _ _ _ h => h) (Or.inl ⟨by rfl, fun w' hSw => ?_⟩) HS.out ?_
    · kernel_rfl
    simp only [Act.put, List.setIfInBounds_toArray, List.set_cons_succ, List.set_cons_zero]
    refine wpAnyH_take (i := 1) (oi := ⟨some 9, _, _, _, _, _⟩) (v := .agg (b32 F)) rfl (by kernel_rfl) (by kernel_rfl) (by kernel_rfl) (fun _ _ _ h => h) (Or.inl ⟨by rfl, fun w' hSw => ?_⟩) HS.out ?_
    · exact run_load_mid 22 (.tmp 8) rfl w.heap.size 0 rfl (b32 F).toList _ (range_num hSw) Try.underlying22 rfl (by rw [Array.length_toList, b32_size]; kernel_rfl)
    simp only [Act.put, List.setIfInBounds_toArray, List.set_cons_succ, List.set_cons_zero]
    refine wpAnyH_take (i := 2) (oi := ⟨some 10, _, _, _, _, _⟩) (v := .pointer (some ⟨w.heap.size, 32, none⟩)) rfl (by kernel_rfl) (by kernel_rfl) (by kernel_rfl) (fun _ _ _ h => h) (Or.inl ⟨by rfl, fun w' hSw => ?_⟩) HS.out ?_
    · kernel_rfl
    simp only [Act.put, List.setIfInBounds_toArray, List.set_cons_succ, List.set_cons_zero]
    refine wpAnyH_take (i := 3) (oi := ⟨some 11, _, _, _, _, _⟩) (v := .agg (b32 fun i => F (32 + i))) rfl (by kernel_rfl) (by kernel_rfl) (by kernel_rfl) (fun _ _ _ h => h) (Or.inl ⟨by rfl, fun w' hSw => ?_⟩) HS.out ?_
    · exact run_load_mid 22 (.tmp 10) rfl w.heap.size 32 rfl (b32 fun i => F (32 + i)).toList _ (range_pt hSw) Try.underlying22 rfl (by rw [Array.length_toList, b32_size]; kernel_rfl)
    simp only [Act.put, List.setIfInBounds_toArray, List.set_cons_succ, List.set_cons_zero]
    rw [hg]
    refine wpAnyH_ready (rs := [4, 5]) (by kernel_rfl) (by simp) ?_
    refine AllReadyH.cons (i := 4) (o := ⟨some 3, .alloc 22, _, _, _, _⟩) rfl (fun K hK => ?_) (AllReadyH.cons (i := 5) (o := ⟨some 4, .alloc 22, _, _, _, _⟩) rfl (fun K hK => ?_) AllReadyH.nil)
    · rw [if_pos (by rfl)]
      refine step_alloc_row 22 rfl (Array.replicate 32 (.int .u8 0)) (by kernel_rfl) ?_
      refine hK.out _ _ (below_row (below_new (w := wa.drew) _) (lt_row RX.out) RX.out) (fun hS1 => ?_)
      clear hK K
      simp only [Act.put, List.setIfInBounds_toArray, List.set_cons_succ, List.set_cons_zero]
      refine wpAnyH_ready (rs := [5]) (by kernel_rfl) (by simp) ?_
      refine AllReadyH.cons (i := 5) (o := ⟨some 4, .alloc 22, _, _, _, _⟩) rfl (fun K hK => ?_) AllReadyH.nil
      rw [if_pos (by rfl)]
      refine step_alloc_row 22 rfl (Array.replicate 32 (.int .u8 0)) (by kernel_rfl) ?_
      refine hK.out _ _ (below_row (below_new (w := wa.drew.alloc _) _) (Nat.lt_of_lt_of_le (lt_row RX.out) (below_new (w := wa.drew) _).size) hS1) (fun hS2 => ?_)
      clear hK K
      simp only [Act.put, List.setIfInBounds_toArray, List.set_cons_succ, List.set_cons_zero]
      obtain ⟨w2, hw2⟩ : ∃ w2, (wa.drew.alloc (.cells (Array.replicate 32 (.int .u8 0)) 22)).alloc (.cells (Array.replicate 32 (.int .u8 0)) 22) = w2 := ⟨_, rfl⟩
      have ra : w2.heap[wa.heap.size]? = some (.cells (Array.replicate 32 (.int .u8 0)) 22 (0, 0)) := by rw [← hw2]; exact rows_alloc wa.drew [_, _] 0
      have rb : w2.heap[wa.heap.size + 1]? = some (.cells (Array.replicate 32 (.int .u8 0)) 22 (0, 0)) := by rw [← hw2]; exact rows_alloc wa.drew [_, _] 1
      have hb : Below wa.heap.size wa.drew w2 := by rw [← hw2]; exact (((Below.refl wa.drew.heap.size wa.drew).alloc (Nat.le_refl _) _).alloc (by simp) _ : Below wa.drew.heap.size wa.drew _)
      have sz : (wa.drew.alloc (.cells (Array.replicate 32 (.int .u8 0)) 22)).heap.size = wa.heap.size + 1 := by simp
      rw [hw2] at hS2 ⊢
      rw [sz, show wa.drew.heap.size = wa.heap.size from rfl]
      clear hw2 sz hS1
      obtain ⟨kN, hkN⟩ : ∃ k, wa.heap.size = k := ⟨_, rfl⟩
      obtain ⟨kP, hkP⟩ : ∃ k, (wa.heap.size + 1) = k := ⟨_, rfl⟩
      have nn : kN ≠ kP := by omega
      have gn : wa.heap.size ≤ kN := by omega
      have gp : wa.heap.size ≤ kP := by omega
      rw [hkP] at rb ⊢
      rw [hkN] at ra ⊢
      refine wpAnyH_ready (rs := [6]) (by kernel_rfl) (by simp) ?_
      refine AllReadyH.cons (i := 6) (o := ⟨none, .store 22 (.tmp 3) (.tmp 9), _, _, _, _⟩) rfl (fun K hK => ?_) AllReadyH.nil
      rw [if_pos (by rfl)]
      refine step_store_row 22 (.tmp 3) (.tmp 9) rfl kN 22 (Array.replicate 32 (.int .u8 0)) (b32 F) rfl rfl ra (by rw [b32_size]; rfl) (by rw [b32_size]; kernel_rfl) (b32_one _) ?_
      intro w9 S1
      refine hK.out _ _ (S1.keep (by have := lt_row RX.out; omega) hS2) (fun hS9 => ?_)
      clear hK K
      simp only [Act.put, List.setIfInBounds_toArray, List.set_cons_succ, List.set_cons_zero]
      refine wpAnyH_ready (rs := [7]) (by kernel_rfl) (by simp) ?_
      refine AllReadyH.cons (i := 7) (o := ⟨none, .store 22 (.tmp 4) (.tmp 11), _, _, _, _⟩) rfl (fun K hK => ?_) AllReadyH.nil
      rw [if_pos (by rfl)]
      refine step_store_row 22 (.tmp 4) (.tmp 11) rfl kP 22 (Array.replicate 32 (.int .u8 0)) (b32 g) rfl rfl (S1.keep nn.symm rb) (by rw [b32_size]; rfl) (by rw [b32_size]; kernel_rfl) (b32_one _) ?_
      intro w10 S2
      refine hK.out _ _ (S2.keep (by have := lt_row RX.out; omega) hS9) (fun hS10 => ?_)
      clear hK K
      simp only [Act.put, List.setIfInBounds_toArray, List.set_cons_succ, List.set_cons_zero]
      refine wpAnyH_done (by kernel_rfl) ?_ _
      have GB : GoodB F g wa kN kP w10 := ⟨news2 hb gn gp nn S1 S2, gn, gp, nn⟩
      exact key kN kP w10 GB
    · rw [if_pos (by rfl)]
      refine step_alloc_row 22 rfl (Array.replicate 32 (.int .u8 0)) (by kernel_rfl) ?_
      refine hK.out _ _ (below_row (below_new (w := wa.drew) _) (lt_row RX.out) RX.out) (fun hS1 => ?_)
      clear hK K
      simp only [Act.put, List.setIfInBounds_toArray, List.set_cons_succ, List.set_cons_zero]
      refine wpAnyH_ready (rs := [4]) (by kernel_rfl) (by simp) ?_
      refine AllReadyH.cons (i := 4) (o := ⟨some 3, .alloc 22, _, _, _, _⟩) rfl (fun K hK => ?_) AllReadyH.nil
      rw [if_pos (by rfl)]
      refine step_alloc_row 22 rfl (Array.replicate 32 (.int .u8 0)) (by kernel_rfl) ?_
      refine hK.out _ _ (below_row (below_new (w := wa.drew.alloc _) _) (Nat.lt_of_lt_of_le (lt_row RX.out) (below_new (w := wa.drew) _).size) hS1) (fun hS2 => ?_)
      clear hK K
      simp only [Act.put, List.setIfInBounds_toArray, List.set_cons_succ, List.set_cons_zero]
      obtain ⟨w2, hw2⟩ : ∃ w2, (wa.drew.alloc (.cells (Array.replicate 32 (.int .u8 0)) 22)).alloc (.cells (Array.replicate 32 (.int .u8 0)) 22) = w2 := ⟨_, rfl⟩
      have ra : w2.heap[wa.heap.size]? = some (.cells (Array.replicate 32 (.int .u8 0)) 22 (0, 0)) := by rw [← hw2]; exact rows_alloc wa.drew [_, _] 0
      have rb : w2.heap[wa.heap.size + 1]? = some (.cells (Array.replicate 32 (.int .u8 0)) 22 (0, 0)) := by rw [← hw2]; exact rows_alloc wa.drew [_, _] 1
      have hb : Below wa.heap.size wa.drew w2 := by rw [← hw2]; exact (((Below.refl wa.drew.heap.size wa.drew).alloc (Nat.le_refl _) _).alloc (by simp) _ : Below wa.drew.heap.size wa.drew _)
      have sz : (wa.drew.alloc (.cells (Array.replicate 32 (.int .u8 0)) 22)).heap.size = wa.heap.size + 1 := by simp
      rw [hw2] at hS2 ⊢
      rw [sz, show wa.drew.heap.size = wa.heap.size from rfl]
      clear hw2 sz hS1
      obtain ⟨kN, hkN⟩ : ∃ k, (wa.heap.size + 1) = k := ⟨_, rfl⟩
      obtain ⟨kP, hkP⟩ : ∃ k, wa.heap.size = k := ⟨_, rfl⟩
      have nn : kN ≠ kP := by omega
      have gn : wa.heap.size ≤ kN := by omega
      have gp : wa.heap.size ≤ kP := by omega
      rw [hkN] at rb ⊢
      rw [hkP] at ra ⊢
      refine wpAnyH_ready (rs := [6]) (by kernel_rfl) (by simp) ?_
      refine AllReadyH.cons (i := 6) (o := ⟨none, .store 22 (.tmp 3) (.tmp 9), _, _, _, _⟩) rfl (fun K hK => ?_) AllReadyH.nil
      rw [if_pos (by rfl)]
      refine step_store_row 22 (.tmp 3) (.tmp 9) rfl kN 22 (Array.replicate 32 (.int .u8 0)) (b32 F) rfl rfl rb (by rw [b32_size]; rfl) (by rw [b32_size]; kernel_rfl) (b32_one _) ?_
      intro w9 S1
      refine hK.out _ _ (S1.keep (by have := lt_row RX.out; omega) hS2) (fun hS9 => ?_)
      clear hK K
      simp only [Act.put, List.setIfInBounds_toArray, List.set_cons_succ, List.set_cons_zero]
      refine wpAnyH_ready (rs := [7]) (by kernel_rfl) (by simp) ?_
      refine AllReadyH.cons (i := 7) (o := ⟨none, .store 22 (.tmp 4) (.tmp 11), _, _, _, _⟩) rfl (fun K hK => ?_) AllReadyH.nil
      rw [if_pos (by rfl)]
      refine step_store_row 22 (.tmp 4) (.tmp 11) rfl kP 22 (Array.replicate 32 (.int .u8 0)) (b32 g) rfl rfl (S1.keep nn.symm ra) (by rw [b32_size]; rfl) (by rw [b32_size]; kernel_rfl) (b32_one _) ?_
      intro w10 S2
      refine hK.out _ _ (S2.keep (by have := lt_row RX.out; omega) hS9) (fun hS10 => ?_)
      clear hK K
      simp only [Act.put, List.setIfInBounds_toArray, List.set_cons_succ, List.set_cons_zero]
      refine wpAnyH_done (by kernel_rfl) ?_ _
      have GB : GoodB F g wa kN kP w10 := ⟨news2 hb gn gp nn S1 S2, gn, gp, nn⟩
      have key3 := key kN kP w10 GB
      with_reducible exact key3
  case key =>
  intro kN kP w3 GB
  obtain ⟨T, gn, gp, nn⟩ := GB
  have GN := Lib.hid (Nat.lt_of_lt_of_le (lt_row RX.out) gn)
  have GP := Lib.hid (Nat.lt_of_lt_of_le (lt_row RX.out) gp)
  have RX := Lib.hid (below_row T.1 (lt_row RX.out) RX.out)
  have BEL := Lib.hid (BEL.out.trans (T.1.mono BEL.out.size))
  have RN := T.2.1
  have RP := Lib.hid T.2.2
  have NN := Lib.hid nn
  have HG := Lib.hid hg
  clear T nn hf f
  obtain ⟨lo, hlo⟩ : ∃ lo, F 64 = lo := ⟨_, rfl⟩
  obtain ⟨hi, hhi⟩ : ∃ hi, F 65 = hi := ⟨_, rfl⟩
  have klo : w3.cell? ⟨w.heap.size, 64, none⟩ = some (.int .u8 (n8 lo)) := by rw [cell_of_row _ _ _ _ _ _ RX.out, bend_get F 64 (by omega), hlo]
  have k0 : w3.cell? ⟨kN, 0, none⟩ = some (.int .u8 (n8 (F 0))) := by rw [cell_of_row _ _ _ _ _ _ RN]; exact b32_get F 0 (by omega)
  have kf : w3.frozen? ⟨kN, 0, none⟩ = false := frozen_of_row _ _ _ _ _ RN
  have HLO := Lib.hid hlo; have HHI := Lib.hid hhi
  clear hlo hhi
  go_upto_region 3 with (fail)
  have S1 := rowSet_cell w3 kN 0 22 (b32 F) (.int .u8 (n8 (F 0 ^^^ lo &&& 7#8))) RN
  rw [b32_set] at S1
  obtain ⟨f1, hf1⟩ : ∃ f1, (fun i => if i = 0 then F 0 ^^^ lo &&& 7#8 else F i) = f1 := ⟨_, rfl⟩
  have e31 : f1 31 = F 31 := by rw [← hf1]; rfl
  rw [hf1] at S1
  have HF1 := Lib.hid hf1
  generalize w3.setCell _ _ = w4 at *
  have RX := Lib.hid (S1.keep (by have := GN.out; omega) RX.out)
  have RP := Lib.hid (S1.keep NN.out.symm RP.out)
  have BEL := Lib.hid (BEL.out.trans (S1.below _ (by have := GN.out; omega)))
  have RN := S1.row
  clear S1 k0 kf klo hf1
  have khi : w4.cell? ⟨w.heap.size, 65, none⟩ = some (.int .u8 (n8 hi)) := by rw [cell_of_row _ _ _ _ _ _ RX.out, bend_get F 65 (by omega), HHI.out]
  have k0 : w4.cell? ⟨kN, 31, none⟩ = some (.int .u8 (n8 (F 31))) := by rw [cell_of_row _ _ _ _ _ _ RN, ← e31]; exact b32_get f1 31 (by omega)
  have kf : w4.frozen? ⟨kN, 31, none⟩ = false := frozen_of_row _ _ _ _ _ RN
  clear e31
  go_upto_region 4 with (fail)
  have S1 := rowSet_cell w4 kN 31 22 (b32 f1) (.int .u8 (n8 (F 31 ^^^ hi &&& 192#8))) RN
  rw [b32_set, b32_congr _ (numT F lo hi) (fun i _ => by
    rw [← HF1.out]
    unfold numT
    by_cases h0 : i = 0
    · subst h0; rfl
    · by_cases h1 : i = 31
      · subst h1; rfl
      · simp only [h0, h1, if_false])] at S1
  generalize w4.setCell _ _ = w5 at *
  have RX := Lib.hid (S1.keep (by have := GN.out; omega) RX.out)
  have RP := S1.keep NN.out.symm RP.out
  have BEL := Lib.hid (BEL.out.trans (S1.below _ (by have := GN.out; omega)))
  have RN := Lib.hid S1.row
  clear S1 k0 kf khi HF1
  have klo : w5.cell? ⟨w.heap.size, 64, none⟩ = some (.int .u8 (n8 lo)) := by rw [cell_of_row _ _ _ _ _ _ RX.out, bend_get F 64 (by omega), HLO.out]
  have k0 : w5.cell? ⟨kP, 31, none⟩ = some (.int .u8 (n8 (g 31))) := by rw [cell_of_row _ _ _ _ _ _ RP]; exact b32_get g 31 (by omega)
  have kf : w5.frozen? ⟨kP, 31, none⟩ = false := frozen_of_row _ _ _ _ _ RP
  go_upto_region 5 with (fail)
  have S1 := rowSet_cell w5 kP 31 22 (b32 g) (.int .u8 (n8 (g 31 ^^^ lo &&& 128#8))) RP
  rw [b32_set, show (fun i => if i = 31 then g 31 ^^^ lo &&& 128#8 else g i) = ptT g lo from rfl] at S1
  generalize w5.setCell _ _ = w6 at *
  have RX := Lib.hid (S1.keep (by have := GP.out; omega) RX.out)
  have RN := Lib.hid (S1.keep NN.out RN.out)
  have BEL := Lib.hid (BEL.out.trans (S1.below _ (by have := GP.out; omega)))
  have RP := Lib.hid S1.row
  clear S1 k0 kf klo
  have U1 := times_any (numT F lo hi) (ptT g lo)
  have U2 := times_any F g
  rw [times_turned] at U1
  obtain ⟨X, hX⟩ : ∃ X, numF (timesN F g) = X := ⟨_, rfl⟩
  rw [hX] at U1 U2
  have U1 := Lib.hid U1; have U2 := Lib.hid U2
  clear hX
  obtain ⟨pt, hpt⟩ : ∃ pt, ptT g lo = pt := ⟨_, rfl⟩
  obtain ⟨nt, hnt⟩ : ∃ nt, numT F lo hi = nt := ⟨_, rfl⟩
  have U1 := U1.out
  have RN := RN.out
  have RP := RP.out
  rw [hpt] at U1 RP
  rw [hnt] at U1 RN
  have U1 := Lib.hid U1; have RN := Lib.hid RN; have RP := Lib.hid RP
  clear hpt hnt
  refine region_class1 12 (fun w' => Below w6.drew.heap.size w6.drew w') mixedOrders (by kernel_rfl) (Below.refl _ _) rfl ?_
  refine wpQuiet_take (by rfl) (fun K hK => ⟨.bool true, fun w2 hw2 => ?_, hK _ ?_⟩)
  · have hw3 := Lib.hid hw2
    clear hw2
    go_simp
    go_at_call 9
    refine (bends_any w2).mono ?_
    rintro e w4 ⟨rfl, hb4⟩
    exact ⟨rfl, hw3.out.trans (hb4.mono hw3.out.size)⟩
  clear hK K
  simp only [Act.put, List.setIfInBounds_toArray, List.set_cons_succ, List.set_cons_zero]
  refine wpQuiet_take (by rfl) (fun K hK => ⟨.bool false, fun w2 hw2 => ?_, hK _ ?_⟩)
  · clear hw2
    go_simp
  clear hK K
  simp only [Act.put, List.setIfInBounds_toArray, List.set_cons_succ, List.set_cons_zero]
  refine wpQuiet_take (by rfl) (fun K hK => ⟨.bool false, fun w2 hw2 => ?_, hK _ ?_⟩)
  · clear hw2
    go_simp
  clear hK K
  simp only [Act.put, List.setIfInBounds_toArray, List.set_cons_succ, List.set_cons_zero]
  refine wpQuiet_take (by rfl) (fun K hK => ⟨.agg (b32 nt), fun w2 hw2 => quiet_load_row 22 (.tmp 3) rfl kN rfl _ _ (0, 0) _ (below_row hw2 (lt_row RN.out) RN.out) Try.underlying22 rfl (by rw [b32_size]; kernel_rfl), hK _ ?_⟩)
  clear hK K
  simp only [Act.put, List.setIfInBounds_toArray, List.set_cons_succ, List.set_cons_zero]
  refine wpQuiet_take (by rfl) (fun K hK => ⟨.agg (b32 pt), fun w2 hw2 => quiet_load_row 22 (.tmp 4) rfl kP rfl _ _ (0, 0) _ (below_row hw2 (lt_row RP.out) RP.out) Try.underlying22 rfl (by rw [b32_size]; kernel_rfl), hK _ ?_⟩)
  clear hK K
  simp only [Act.put, List.setIfInBounds_toArray, List.set_cons_succ, List.set_cons_zero]
  refine wpQuiet_take (by rfl) (fun K hK => ⟨.agg (b32 X), fun w2 hw2 => ?_, hK _ ?_⟩)
  · have hw3 := Lib.hid hw2
    clear hw2
    go_simp
    go_at_call 8
    refine (U1.out w2).mono ?_
    rintro e w4 ⟨rfl, hb4⟩
    exact ⟨rfl, hw3.out.trans (hb4.mono hw3.out.size)⟩
  clear hK K
  simp only [Act.put, List.setIfInBounds_toArray, List.set_cons_succ, List.set_cons_zero]
  refine wpQuiet_take (by rfl) (fun K hK => ⟨.pointer (some ⟨w.heap.size, 0, none⟩), fun w2 hw2 => quiet_run (by kernel_rfl), hK _ ?_⟩)
  clear hK K
  simp only [Act.put, List.setIfInBounds_toArray, List.set_cons_succ, List.set_cons_zero]
  refine wpQuiet_take (by rfl) (fun K hK => ⟨.agg (b32 F), fun w2 hw2 => quiet_load_mid 22 (.tmp 39) rfl w.heap.size 0 rfl (b32 F).toList _ (range_num (below_row hw2 (lt_row RX.out) RX.out)) Try.underlying22 rfl (by rw [Array.length_toList, b32_size]; kernel_rfl), hK _ ?_⟩)
  clear hK K
  simp only [Act.put, List.setIfInBounds_toArray, List.set_cons_succ, List.set_cons_zero]
  refine wpQuiet_take (by rfl) (fun K hK => ⟨.pointer (some ⟨w.heap.size, 32, none⟩), fun w2 hw2 => quiet_run (by kernel_rfl), hK _ ?_⟩)
  clear hK K
  simp only [Act.put, List.setIfInBounds_toArray, List.set_cons_succ, List.set_cons_zero]
  refine wpQuiet_take (by rfl) (fun K hK => ⟨.agg (b32 g), fun w2 hw2 => ?_, hK _ ?_⟩)
  · rw [← HG.out]
    exact quiet_load_mid 22 (.tmp 41) rfl w.heap.size 32 rfl (b32 fun i => F (32 + i)).toList _ (range_pt (below_row hw2 (lt_row RX.out) RX.out)) Try.underlying22 rfl (by rw [Array.length_toList, b32_size]; kernel_rfl)
  clear hK K
  simp only [Act.put, List.setIfInBounds_toArray, List.set_cons_succ, List.set_cons_zero]
  refine wpQuiet_take (by rfl) (fun K hK => ⟨.agg (b32 X), fun w2 hw2 => ?_, hK _ ?_⟩)
  · have hw3 := Lib.hid hw2
    clear hw2
    go_simp
    go_at_call 8
    refine (U2.out w2).mono ?_
    rintro e w4 ⟨rfl, hb4⟩
    exact ⟨rfl, hw3.out.trans (hb4.mono hw3.out.size)⟩
  clear hK K
  simp only [Act.put, List.setIfInBounds_toArray, List.set_cons_succ, List.set_cons_zero]
  refine wpQuiet_take (by rfl) (fun K hK => ⟨.bool false, fun w2 hw2 => quiet_run (run_ne32 rfl _ w2 rfl rfl (eqb32_same X w2)), hK _ ?_⟩)
  clear hK K
  simp only [Act.put, List.setIfInBounds_toArray, List.set_cons_succ, List.set_cons_zero]
  refine wpQuiet_take0 ?_
  intro w7 hq
  have T : Below w6.heap.size w6 w7 := (Below.refl _ _).drew.trans hq
  clear hq
  have RX := Lib.hid (below_row T (lt_row RX.out) RX.out)
  have BEL := Lib.hid (BEL.out.trans (T.mono BEL.out.size))
  clear T RN RP U1 U2
  obtain ⟨h, hh, e19⟩ : ∃ h : BitVec 8, h.toNat < 19 ∧ (n8 hi).tmod 19 = n8 h := by
    have h2 : ∀ b : BitVec 8, n8 b = (b.toNat : Int) := fun b => by unfold n8; rfl
    have h3 : hi.toNat % 19 < 19 := Nat.mod_lt _ (by omega)
    refine ⟨BitVec.ofNat 8 (hi.toNat % 19), ?_, ?_⟩
    · rw [BitVec.toNat_ofNat]; omega
    · rw [h2, h2, BitVec.toNat_ofNat, Nat.mod_eq_of_lt (by omega : hi.toNat % 19 < 2 ^ 8)]
      exact (Int.ofNat_tmod hi.toNat 19).symm
  have HH := Lib.hid hh
  clear hh
  go_upto_region 7 with (fail)
  have khi : w7.cell? ⟨w.heap.size, 65, none⟩ = some (.int .u8 (n8 hi)) := by rw [cell_of_row _ _ _ _ _ _ RX.out, bend_get F 65 (by omega), HHI.out]
  go_upto_region 8 with (first
    | ((with_reducible refine wpList_alloc_row (o := ⟨some 5, .alloc 22, _, _, _, _⟩) ?_ 22 ?_ (Array.replicate 32 (.int .u8 0)) ?_ ?_); (focus rfl); (focus rfl); (focus kernel_rfl))
    | ((with_reducible refine wpList_store_new (o := ⟨none, .store 22 (.tmp 5) (.tmp 49), _, _, _, _⟩) ?_ 22 (.tmp 5) (.tmp 49) ?_ (Array.replicate 32 (.int .u8 0)) (b32 (byteF h)) w7.heap.size ?_ ?_ ?_ ?_ ?_ (b32_one _) ?_); (focus rfl); (focus rfl); (focus rfl); (focus rfl); (focus kernel_rfl); (focus (rw [b32_size]; kernel_rfl)); (focus (rw [b32_size]; rfl))))
  have T : Below w7.heap.size w7 (w7.alloc (.cells (b32 (byteF h)) 22)) := below_new _
  have R5 : (w7.alloc (.cells (b32 (byteF h)) 22)).heap[w7.heap.size]? = some (.cells (b32 (byteF h)) 22 (0, 0)) := heap_alloc_last _ _
  have G5 := Lib.hid (lt_row RX.out)
  generalize w7.heap.size = q5 at *
  generalize w7.alloc _ = w8 at *
  have RX := Lib.hid (below_row T G5.out RX.out)
  have BEL := Lib.hid (BEL.out.trans (T.mono (Nat.le_of_lt (Nat.lt_of_lt_of_le G5.out (Nat.le_refl _)))))
  have R5 := Lib.hid R5
  clear T khi
  have khi : w8.cell? ⟨w.heap.size, 65, none⟩ = some (.int .u8 (n8 hi)) := by rw [cell_of_row _ _ _ _ _ _ RX.out, bend_get F 65 (by omega), HHI.out]
  try simp only [Act.put, List.setIfInBounds_toArray, List.set_cons_succ, List.set_cons_zero]
  go_upto_region 9 with (first
    | ((with_reducible refine wpList_alloc_row (o := ⟨some 6, .alloc 22, _, _, _, _⟩) ?_ 22 ?_ (Array.replicate 32 (.int .u8 0)) ?_ ?_); (focus rfl); (focus rfl); (focus kernel_rfl))
    | ((with_reducible refine wpList_store_new (o := ⟨none, .store 22 (.tmp 6) (.tmp 54), _, _, _, _⟩) ?_ 22 (.tmp 6) (.tmp 54) ?_ (Array.replicate 32 (.int .u8 0)) (b32 (moreF h 1)) w8.heap.size ?_ ?_ ?_ ?_ ?_ (b32_one _) ?_); (focus rfl); (focus rfl); (focus rfl); (focus rfl); (focus kernel_rfl); (focus (rw [b32_size]; kernel_rfl)); (focus (rw [b32_size]; rfl))))
  have T : Below w8.heap.size w8 (w8.alloc (.cells (b32 (moreF h 1)) 22)) := below_new _
  have R6 : (w8.alloc (.cells (b32 (moreF h 1)) 22)).heap[w8.heap.size]? = some (.cells (b32 (moreF h 1)) 22 (0, 0)) := heap_alloc_last _ _
  have G6 := Lib.hid (lt_row RX.out)
  have N56 := Lib.hid (Nat.ne_of_lt (lt_row R5.out))
  have L56 := Lib.hid (lt_row R5.out)
  have NX6 := Lib.hid (Nat.ne_of_lt (lt_row RX.out))
  generalize w8.heap.size = q6 at *
  generalize w8.alloc _ = w9 at *
  have RX := below_row T G6.out RX.out
  have R5 := below_row T L56.out R5.out
  have BEL := BEL.out.trans (T.mono (Nat.le_of_lt G6.out))
  clear T khi e19
  try simp only [Act.put, List.setIfInBounds_toArray, List.set_cons_succ, List.set_cons_zero]
  go_wp2_with fail
  go_loopw [7] (fun s wr => ∃ k : Nat, 1 ≤ k ∧ k ≤ 31 ∧ s = .int .i64 (k : Int) ∧ wr.heap[q6]? = some (.cells (b32 (moreF h k)) 22 (0, 0)) ∧ wr.heap[w.heap.size]? = some (.cells (bend F) 33 (0, 0)) ∧ wr.heap[q5]? = some (.cells (b32 (byteF h)) 22 (0, 0)) ∧ Below w.heap.size w wr)
    (fun s _ => 31 - (intOf s).toNat)
  case atStart => exact ⟨1, by omega, by omega, rfl, R6, RX, R5, BEL⟩
  case round =>
    obtain ⟨k, hk1, hk, rfl, q, RX, R5, hbw⟩ := hrel
    by_cases hlt : k < 31
    · have ko : wr.cell? ⟨q6, k, none⟩ = some (.int .u8 (n8 (moreF h k k))) := by rw [cell_of_row _ _ _ _ _ _ q]; exact b32_get _ k (by omega)
      have kf : wr.frozen? ⟨q6, k, none⟩ = false := frozen_of_row _ _ _ _ _ q
      go_wp2_with fail
      go_roundw
      case rel =>
        have e255 : (Value.int .u8 255) = .int .u8 (n8 255#8) := by unfold n8; rfl
        refine ⟨k + 1, by omega, by omega, by go_num, ?_, Eq.trans (heap_setCell_other _ _ _ _ NX6.out) RX, Eq.trans (heap_setCell_other _ _ _ _ N56.out) R5, hbw.setCell (Nat.le_of_lt G6.out) _⟩
        rw [e255, heap_setCell_same _ _ _ _ _ _ q, b32_set]
        rw [b32_congr _ (moreF h (k + 1)) (fun i hi => ?_)]
        unfold moreF
        by_cases h0 : i = k
        · subst h0
          rw [if_pos rfl, if_neg (by omega), if_pos (by omega)]
        · rw [if_neg h0]
          by_cases h1 : i = 0
          · rw [if_pos h1, if_pos h1]
          · rw [if_neg h1, if_neg h1]
            by_cases h2 : i < k
            · rw [if_pos h2, if_pos (by omega)]
            · rw [if_neg h2, if_neg (by omega)]
      case measure => simp [intOf]; omega
    · obtain rfl : k = 31 := by omega
      have ko : wr.cell? ⟨q6, 31, none⟩ = some (.int .u8 (n8 (moreF h 31 31))) := by rw [cell_of_row _ _ _ _ _ _ q]; exact b32_get _ 31 (by omega)
      have kf : wr.frozen? ⟨q6, 31, none⟩ = false := frozen_of_row _ _ _ _ _ q
      have e127 : (Value.int .u8 127) = .int .u8 (n8 127#8) := by unfold n8; rfl
      have S1 := rowSet_cell wr q6 31 22 (b32 (moreF h 31)) (.int .u8 127) q
      rw [e127, b32_set, show (fun i => if i = 31 then 127#8 else moreF h 31 i) = moreZ h from rfl, ← e127] at S1
      have S1 := Lib.hid S1
      clear e127
      go_upto_region 14 with (fail)
      have S1 := S1.out
      generalize wr.setCell _ _ = wf at *
      have RX := Lib.hid (S1.keep NX6.out RX)
      have R5 := Lib.hid (S1.keep N56.out R5)
      have BEL := Lib.hid (hbw.trans (S1.below _ (by have := G6.out; omega)))
      have R6 := Lib.hid S1.row
      clear S1 ko kf q hbw
      have U1 := times_any F (byteF h)
      have U2 := times_any F (moreZ h)
      rw [← times_more F h HH.out] at U2
      obtain ⟨Y, hY⟩ : ∃ Y, numF (timesN F (byteF h)) = Y := ⟨_, rfl⟩
      rw [hY] at U1 U2
      have U1 := Lib.hid U1; have U2 := Lib.hid U2
      clear hY
      refine region_class1 9 (fun w' => Below wf.drew.heap.size wf.drew w') mixedOrders (by kernel_rfl) (Below.refl _ _) rfl ?_
      refine wpQuiet_take (by rfl) (fun K hK => ⟨.pointer (some ⟨w.heap.size, 0, none⟩), fun w2 hw2 => quiet_run (by kernel_rfl), hK _ ?_⟩)
      clear hK K
      simp only [Act.put, List.setIfInBounds_toArray, List.set_cons_succ, List.set_cons_zero]
      refine wpQuiet_take (by rfl) (fun K hK => ⟨.agg (b32 F), fun w2 hw2 => quiet_load_mid 22 (.tmp 62) rfl w.heap.size 0 rfl (b32 F).toList _ (range_num (below_row hw2 (lt_row RX.out) RX.out)) Try.underlying22 rfl (by rw [Array.length_toList, b32_size]; kernel_rfl), hK _ ?_⟩)
      clear hK K
      simp only [Act.put, List.setIfInBounds_toArray, List.set_cons_succ, List.set_cons_zero]
      refine wpQuiet_take (by rfl) (fun K hK => ⟨.agg (b32 (byteF h)), fun w2 hw2 => quiet_load_row 22 (.tmp 5) rfl q5 rfl _ _ (0, 0) _ (below_row hw2 (lt_row R5.out) R5.out) Try.underlying22 rfl (by rw [b32_size]; kernel_rfl), hK _ ?_⟩)
      clear hK K
      simp only [Act.put, List.setIfInBounds_toArray, List.set_cons_succ, List.set_cons_zero]
      refine wpQuiet_take (by rfl) (fun K hK => ⟨.agg (b32 Y), fun w2 hw2 => ?_, hK _ ?_⟩)
      · have hw3 := Lib.hid hw2
        clear hw2
        go_simp
        go_at_call 8
        refine (U1.out w2).mono ?_
        rintro e w4 ⟨rfl, hb4⟩
        exact ⟨rfl, hw3.out.trans (hb4.mono hw3.out.size)⟩
      clear hK K
      simp only [Act.put, List.setIfInBounds_toArray, List.set_cons_succ, List.set_cons_zero]
      refine wpQuiet_take (by rfl) (fun K hK => ⟨.pointer (some ⟨w.heap.size, 0, none⟩), fun w2 hw2 => quiet_run (by kernel_rfl), hK _ ?_⟩)
      clear hK K
      simp only [Act.put, List.setIfInBounds_toArray, List.set_cons_succ, List.set_cons_zero]
      refine wpQuiet_take (by rfl) (fun K hK => ⟨.agg (b32 F), fun w2 hw2 => quiet_load_mid 22 (.tmp 66) rfl w.heap.size 0 rfl (b32 F).toList _ (range_num (below_row hw2 (lt_row RX.out) RX.out)) Try.underlying22 rfl (by rw [Array.length_toList, b32_size]; kernel_rfl), hK _ ?_⟩)
      clear hK K
      simp only [Act.put, List.setIfInBounds_toArray, List.set_cons_succ, List.set_cons_zero]
      refine wpQuiet_take (by rfl) (fun K hK => ⟨.agg (b32 (moreZ h)), fun w2 hw2 => quiet_load_row 22 (.tmp 6) rfl q6 rfl _ _ (0, 0) _ (below_row hw2 (lt_row R6.out) R6.out) Try.underlying22 rfl (by rw [b32_size]; kernel_rfl), hK _ ?_⟩)
      clear hK K
      simp only [Act.put, List.setIfInBounds_toArray, List.set_cons_succ, List.set_cons_zero]
      refine wpQuiet_take (by rfl) (fun K hK => ⟨.agg (b32 Y), fun w2 hw2 => ?_, hK _ ?_⟩)
      · have hw3 := Lib.hid hw2
        clear hw2
        go_simp
        go_at_call 8
        refine (U2.out w2).mono ?_
        rintro e w4 ⟨rfl, hb4⟩
        exact ⟨rfl, hw3.out.trans (hb4.mono hw3.out.size)⟩
      clear hK K
      simp only [Act.put, List.setIfInBounds_toArray, List.set_cons_succ, List.set_cons_zero]
      refine wpQuiet_take (by rfl) (fun K hK => ⟨.bool true, fun w2 hw2 => quiet_run (run_eq32 rfl _ w2 rfl rfl (eqb32_same Y w2)), hK _ ?_⟩)
      clear hK K
      simp only [Act.put, List.setIfInBounds_toArray, List.set_cons_succ, List.set_cons_zero]
      refine wpQuiet_take0 ?_
      intro w7 hq
      have T : Below wf.heap.size wf w7 := (Below.refl _ _).drew.trans hq
      go_wp2_with fail
      go_ret
      exact ⟨rfl, BEL.out.trans (T.mono BEL.out.size)⟩
theorem walk {H : Type} {enc : TypeId × Value → H} (w : World) (base : Nat) (v0 : Value) (d0 : DataW H) (p0 : List MemPlace)
    (k0 : Value.okWide Try.prog w .any base 33 v0)
    (h0 : DataW.Trod enc Try.prog w 0 (fun _ => true) true 33 v0 d0 p0) :
    Calls Try.prog 5 #[v0] w fun e w' => e = .returned (.bool true) ∧ Below w.heap.size w w' := by
  obtain ⟨F, rfl⟩ := open_bend k0 h0
  exact law_core F w
set_option maxRecDepth 100000 in
theorem lifted (os : Os) (started : os.Started) (H : Type) (enc : TypeId × Value → H) :
    ReturnsInHanded {} Try.checked os 5 .any (Rows.curveBitsSpec.pre6 enc Try.prog Try.f5 Rows.curveBitsRow.domain false) (Rows.curveBitsSpec.post enc Try.prog Try.f5 false true false false) := by
  refine returnsInHanded_of_change (C := Try.checked) own started (by kernel_rfl) Try.func5
    (ChangeSpec.witness6 (enc := enc) (C := Try.checked) false ⟨#[], #[.agg (Array.replicate 66 (.int .u8 0))], []⟩ 8 (by kernel_rfl) (by kernel_rfl) (by kernel_rfl) (by kernel_rfl)) ?_
  intro W base args ds gs before hval0 hW hcnd _
  have hval : ∀ (j : Nat) t v, Try.f5.params[j]? = some t → args[j]? = some v → Value.okWide Try.prog W .any base t v := hval0
  have hW' := hW
  obtain ⟨p, q, hA0, hV, rfl, hfz, hnd⟩ := hW
  have hA : DataW.TrodAll enc Try.prog W 0 (fun _ => true) true Try.f5.params.toList args.toList ds p := hA0
  rw [Try.params5] at hA hval
  obtain ⟨v0, vs0, d0, ds0, p0, q0, hargs, rfl, rfl, h0, r0⟩ := trodAll_cons hA
  obtain ⟨rfl, rfl, rfl⟩ := trodAll_nil r0
  obtain rfl : args = #[v0] := by cases args; simp_all
  obtain ⟨rfl, rfl⟩ := trodVars_none hV
  have k0 := h0
  have lt0 : ∀ x ∈ p0, x.block < W.heap.size := by obtain ⟨m, hm⟩ := k0; exact DataW.trod_lt m _ _ _ hm
  clear hA0 hval0
  refine (walk W base v0 d0 p0 (hval 0 33 v0 rfl rfl) k0).mono fun e W' ⟨he, bel⟩ => ?_
  subst he
  exact ⟨_, rfl, _, _, _, [], _, [], hW', trodAll_mk1 (shut_bool Try.underlying4 _), (trodAll_cons_mk (Below.trod laidOut (by kernel_rfl) (of_decide_eq_true (by kernel_rfl)) k0 bel lt0) trodAll_mk0), rfl, bel.frame _, fun h => by cases h⟩
theorem over : Rows.curveBitsRow.holds Try.pinned (OpenSpec.ofChange Rows.curveBitsSpec) :=
  OpenClaim.holds_of_wide 5 Try.f5 rfl rfl rfl rfl rfl rfl rfl ⟨rfl, rfl, rfl, rfl, rfl⟩ rfl rfl rfl rfl rfl (by kernel_rfl) Try.func5 (by kernel_rfl)
    (of_decide_eq_true (by kernel_rfl)) (by unfold Func.isWrapper; first | (rw [if_pos (by decide +kernel)]; kernel_rfl) | (rw [if_neg (by decide +kernel)]; exact ⟨rfl, rfl⟩))
    (fun os started H enc _ => lifted os started H enc)
theorem proved : Rows.CurveBitsSaid := over
end Go.Proofs.Ytakjpkdpcmnpgaa.curveBits
