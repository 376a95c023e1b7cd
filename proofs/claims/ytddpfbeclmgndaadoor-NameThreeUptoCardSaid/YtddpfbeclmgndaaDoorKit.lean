/-
  SMALL TOOLS OF THESE WALKS: a region's head of reads and its forced tail; what is below a world; returns of words.
-/
import Derived.Test.YtddpfbeclmgndaaDoorChecked
import Derived.Test.YtddpfbeclmgndaaDoorWords
import Derived.Deep.QuietTactic
import Derived.BigQuiet
import Derived.Deep.MidRow
import Derived.Deep.WholeRow
namespace Go.Proofs.YtddpfbeclmgndaaDoor
open Go Go.RowKit
theorem mixedOrders : Tryd.prog.follows .mixedOrders = true := by kernel_rfl
theorem region_tail {P : Program} {w : World} {id : Nat} {Q : Exit → Act → World → Prop} {a : Act} {l : List Oper} (n : Nat) (hm : P.follows .mixedOrders = true) (hB : Region.lexTailB .any l.toArray n = true)
    (h : wpStill P l.toArray w.drew (fun a' => wpList P l.toArray Q (l.drop n) a' w.drew) (l.take n) a) : (Code.region id l.toArray true).wp P Q a w :=
  wp_region_still_tail n hm hB h
theorem region_reads {P : Program} {w : World} {id : Nat} {Q : Exit → Act → World → Prop} {a : Act} {l : List Oper} (hm : P.follows .mixedOrders = true) (hB : Region.lexB .any l.toArray = true)
    (h : wpStill P l.toArray w.drew (fun a' => Q .normal a' w.drew) l a) : (Code.region id l.toArray true).wp P Q a w :=
  wp_region_still_lit hm hB h
theorem still_of_quiet {P : Program} {ops : Array Oper} {w : World} {Q : Act → Prop} : ∀ (l : List Oper) (a : Act), wpQuiet P ops (fun w' => w' = w) Q l a → wpStill P ops w Q l a
  | [], _, h => h
  | o :: l, a, h => by
    unfold wpQuiet at h
    unfold wpStill
    split
    · rename_i hw
      rw [if_pos hw] at h
      obtain ⟨v, h1, h2⟩ := h
      have h3 := h1 w rfl
      unfold Oper.quietAt at h3
      unfold Oper.still
      generalize (execOp a.eval o).run P w = r at *
      cases r with
      | ok n w' =>
        cases n <;> simp only [Oper.quietUpon] at h3 <;> simp only [Oper.stillUpon]
        case value u => obtain ⟨h4, rfl⟩ := h3; exact ⟨h4, still_of_quiet l _ h2⟩
        case skip => obtain ⟨h4, rfl⟩ := h3; exact ⟨h4, still_of_quiet l _ h2⟩
        case enter f args => obtain ⟨h4, h5⟩ := h3; exact ⟨h4, v, h5, still_of_quiet l _ h2⟩
      | halt x w' => simp only [Oper.quietUpon] at h3
    · rename_i hw
      rw [if_neg hw] at h
      exact still_of_quiet l _ h
/-- A region that draws its order: a head of reads, in the text's order; behind it the tail, whose order is forced. -/
theorem region_head {P : Program} {w : World} {id : Nat} {Q : Exit → Act → World → Prop} {a : Act} {l : List Oper} (n : Nat) (hm : P.follows .mixedOrders = true) (hB : Region.lexTailB .any l.toArray n = true)
    (h : wpQuiet P l.toArray (fun w' => w' = w.drew) (fun a' => wpList P l.toArray Q (l.drop n) a' w.drew) (l.take n) a) : (Code.region id l.toArray true).wp P Q a w :=
  region_tail n hm hB (still_of_quiet _ _ h)
theorem region_quiet {P : Program} {w : World} {id : Nat} {Q : Exit → Act → World → Prop} {a : Act} {l : List Oper} (hm : P.follows .mixedOrders = true) (hB : Region.lexB .any l.toArray = true)
    (h : wpQuiet P l.toArray (fun w' => w' = w.drew) (fun a' => Q .normal a' w.drew) l a) : (Code.region id l.toArray true).wp P Q a w :=
  region_reads hm hB (still_of_quiet _ _ h)
theorem bcell {W w1 : World} (hb : Below W.heap.size W w1) : (∀ b o, b < W.heap.size → w1.cell? ⟨b, o, none⟩ = W.cell? ⟨b, o, none⟩) ∧ (∀ b o, b < W.heap.size → w1.frozen? ⟨b, o, none⟩ = W.frozen? ⟨b, o, none⟩) :=
  ⟨fun b o h => hb.cell (p := ⟨b, o, none⟩) h, fun b o h => hb.frozen (p := ⟨b, o, none⟩) h⟩
/-- One operation that yields a value, by its run. -/
theorem wpList_run {P : Program} {ops : Array Oper} {Q : Exit → Act → World → Prop} {o : Oper} {rest : List Oper} {a : Act} {w w' : World} {v : Value} (hg : o.guard = none)
    (hr : (execOp a.eval o).run P w = .ok (.value v) w') (h : wpList P ops Q rest (a.put o.dst v) w') : wpList P ops Q (o :: rest) a w :=
  wpList_plain hg fun _ hK => by unfold Oper.wp; rw [hr]; exact hK _ _ h
/-- One operation that yields nothing. -/
theorem wpList_run_skip {P : Program} {ops : Array Oper} {Q : Exit → Act → World → Prop} {o : Oper} {rest : List Oper} {a : Act} {w w' : World} (hg : o.guard = none)
    (hr : (execOp a.eval o).run P w = .ok .skip w') (h : wpList P ops Q rest (a.put o.dst undef) w') : wpList P ops Q (o :: rest) a w :=
  wpList_plain hg fun _ hK => by unfold Oper.wp; rw [hr]; exact hK _ _ h
/-- A new variable of an array's or a struct's type. -/
theorem wpList_alloc_row {P : Program} {ops : Array Oper} {Q : Exit → Act → World → Prop} {o : Oper} {rest : List Oper} {a : Act} {w : World} (hg : o.guard = none) (T : TypeId) (ho : o.op = .alloc T)
    (cs : Array Value) (hz : (P.info? T).map (·.zero) = some (some (.agg cs)))
    (h : wpList P ops Q rest (a.put o.dst (.pointer (some ⟨w.heap.size, 0, none⟩))) (w.alloc (.cells cs T))) : wpList P ops Q (o :: rest) a w := by
  refine wpList_run hg ?_ h
  unfold execOp
  cases hq : P.info? T with
  | none => simp [hq] at hz
  | some x =>
    have hx : x.zero = some (.agg cs) := by simpa [hq] using hz
    simp only [ho]
    simp [Instr.alloc, zeroValue, typeInfo, hq, hx, go_sem, Sem.run_bind, Value.cells]
/-- A whole row into the variable that was made last. -/
theorem wpList_store_new {P : Program} {ops : Array Oper} {Q : Exit → Act → World → Prop} {o : Oper} {rest : List Oper} {a : Act} {w : World} (hg : o.guard = none) (T : TypeId) (x y : Operand) (ho : o.op = .store T x y)
    (c c' : Array Value) (n : Nat) (hn : n = w.heap.size) (hx : a.eval x = .pointer (some ⟨n, 0, none⟩)) (hy : a.eval y = .agg c')
    (hi : (P.info? T).map (·.size) = some c'.size) (hs : c.size = c'.size) (h1 : c'.all (·.oneCell') = true)
    (h : wpList P ops Q rest (a.put o.dst undef) (w.alloc (.cells c' T))) : wpList P ops Q (o :: rest) a (w.alloc (.cells c T)) := by
  subst hn
  refine wpList_run_skip hg ?_ h
  unfold execOp
  simp only [ho, hx, hy]
  rw [Sem.run_bind, run_storeAt_new w T c c' hi hs h1]
  rfl
/-- An element of an array that a slot holds, of one cell each. -/
theorem run_index_arr {P : Program} (t elem : TypeId) (len : Nat) (cs : Array Value) (k kk : IntKind) (i : Int) (w : World)
    (hu : P.underlying t = some (.array len elem)) (he : P.underlying elem = some (.int kk)) (hs : (P.info? elem).map (·.size) = some 1) (h0 : 0 ≤ i) (h1 : i < (len : Int)) (hc : cs.size = len) :
    (Instr.index t (.agg cs) (.int k i)).run P w = .ok (cs[i.toNat]?.getD undef) w := by
  have hi : i.toNat < cs.size := by omega
  have hsz : (sizeOf elem).run P w = .ok 1 w := by
    cases hq : P.info? elem with
    | none => simp [hq] at hs
    | some x =>
      have hx : x.size = 1 := by simpa [hq] using hs
      simp [sizeOf, typeInfo, hq, hx, Sem.run_bind]
  have hag : (isAgg elem).run P w = .ok false w := by
    unfold isAgg
    rw [Sem.run_bind, run_underlying he w]
    simp
  have hp : (part elem cs (i.toNat * 1)).run P w = .ok (cs[i.toNat]?.getD undef) w := by
    unfold part
    rw [Sem.run_bind, hag]
    simp [hi]
  unfold Instr.index
  simp only [Sem.run_bind, asIntOf, Sem.run_pure, Result.andThen_ok, run_underlying hu w]
  rw [if_pos ⟨h0, h1⟩]
  simp only [Sem.run_bind, hsz, Result.andThen_ok]
  exact hp
theorem ret_u32 {a b : BitVec 32} (h : a = b) : Ending.returned (.int .u32 (n32 a)) = .returned (.int .u32 (n32 b)) := by rw [h]
theorem n32_nonneg_t (x : BitVec 32) : (0 ≤ n32 x) = True := eq_true (n32_nonneg x)
theorem n8_nonneg_t (x : BitVec 8) : (0 ≤ n8 x) = True := eq_true (n8_nonneg x)
theorem n8_lt_t (x : BitVec 8) : (n8 x < 256) = True := eq_true (n8_lt x)
theorem n32_and255 (x : BitVec 32) : n32 (x &&& 255#32) < 256 := by
  have h : ix32 (x &&& 255#32) < 256 := by
    unfold ix32
    rw [BitVec.toNat_and]
    exact Nat.lt_of_le_of_lt Nat.and_le_right (by decide)
  rw [n32_ix]; omega
theorem n32_shr24 (x : BitVec 32) : n32 (x >>> 24) < 256 := by
  have h : ix32 (x >>> 24) < 256 := by
    unfold ix32
    have hx := x.isLt
    rw [BitVec.toNat_ushiftRight, Nat.shiftRight_eq_div_pow]
    omega
  rw [n32_ix]; omega
theorem n32_and255_t (x : BitVec 32) : (n32 (x &&& 255#32) < 256) = True := eq_true (n32_and255 x)
theorem n32_shr24_t (x : BitVec 32) : (n32 (x >>> 24) < 256) = True := eq_true (n32_shr24 x)
theorem ix32_and255 (x : BitVec 32) : ix32 (x &&& 255#32) < 256 := by have := n32_and255 x; rw [n32_ix] at this; omega
theorem ix32_shr24 (x : BitVec 32) : ix32 (x >>> 24) < 256 := by have := n32_shr24 x; rw [n32_ix] at this; omega
theorem ix32_and255_t (x : BitVec 32) : (ix32 (x &&& 255#32) < 256) = True := eq_true (ix32_and255 x)
theorem ix32_shr24_t (x : BitVec 32) : (ix32 (x >>> 24) < 256) = True := eq_true (ix32_shr24 x)
attribute [go_sem] n32_nonneg_t n8_nonneg_t n8_lt_t n32_and255_t n32_shr24_t ix32_and255_t ix32_shr24_t
end Go.Proofs.YtddpfbeclmgndaaDoor
