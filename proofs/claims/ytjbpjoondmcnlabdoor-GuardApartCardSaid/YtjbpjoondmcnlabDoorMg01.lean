/-
  TEXTS PUT TOGETHER: Kit, Region, RowKit, ShaMath, ShaA, ShaDoor.
-/
import Derived.Test.YtjbpjoondmcnlabDoorChecked
import Derived.Test.YtjbpjoondmcnlabDoorWords
import Derived.Deep.QuietTactic
import Derived.BigQuiet
import Derived.Deep.MidRow
import Derived.Deep.WholeRow
import Derived.StillTail
import Derived.Deep.Quiet
import Derived.Below
import Derived.Laws.Rows
import Derived.Laws.IdiomCopy
import Derived.Test.YtjbpjoondmcnlabDoorRows
import Derived.Test.YtjbpjoondmcnlabDoorTie
import Derived.ProofKit
import Derived.LaidMore
import Derived.OpenShut
import Derived.Stop.Joined
import Derived.Lib.LaidTab
set_option maxRecDepth 100000
/-
  SMALL TOOLS OF THESE WALKS: a region's head of reads and its forced tail; what is below a world; returns of words.
-/
namespace Go.Proofs.YtjbpjoondmcnlabDoor
open Go Go.RowKit
theorem mixedOrders : Tryd.prog.follows .mixedOrders = true := by kernel_rfl
theorem region_tail {P : Program} {w : World} {id : Nat} {Q : Exit → Act → World → Prop} {a : Act} {l : List Oper} (n : Nat) (hm : P.follows .mixedOrders = true) (hB : Region.lexTailB .any l.toArray n = true)
    (h : wpStill P l.toArray w.drew (fun a' => wpList P l.toArray Q (l.drop n) a' w.drew) (l.take n) a) : (Code.region id l.toArray true).wp P Q a w :=
  wp_region_still_tail n hm hB h
theorem region_reads {P : Program} {w : World} {id : Nat} {Q : Exit → Act → World → Prop} {a : Act} {l : List Oper} (hm : P.follows .mixedOrders = true) (hB : Region.lexB .any l.toArray = true)
    (h : wpStill P l.toArray w.drew (fun a' => Q .normal a' w.drew) l a) : (Code.region id l.toArray true).wp P Q a w :=
  wp_region_still_lit hm hB h
theorem still_of_quiet {P : Program} {ops : Array Oper} {w : World} {Q : Act → Prop} : ∀ (l : List Oper) (a : Act), wpQuiet P ops (fun w' => w' = w) Q l a → wpStill P ops w Q l a
  | [], _, h => h
  | o :: l, a, h => by
    unfold wpQuiet at h
    unfold wpStill
    split
    · rename_i hw
      rw [if_pos hw] at h
      obtain ⟨v, h1, h2⟩ := h
      have h3 := h1 w rfl
      unfold Oper.quietAt at h3
      unfold Oper.still
      generalize (execOp a.eval o).run P w = r at *
      cases r with
      | ok n w' =>
        cases n <;> simp only [Oper.quietUpon] at h3 <;> simp only [Oper.stillUpon]
        case value u => obtain ⟨h4, rfl⟩ := h3; exact ⟨h4, still_of_quiet l _ h2⟩
        case skip => obtain ⟨h4, rfl⟩ := h3; exact ⟨h4, still_of_quiet l _ h2⟩
        case enter f args => obtain ⟨h4, h5⟩ := h3; exact ⟨h4, v, h5, still_of_quiet l _ h2⟩
      | halt x w' => simp only [Oper.quietUpon] at h3
    · rename_i hw
      rw [if_neg hw] at h
      exact still_of_quiet l _ h
/-- A region that draws its order: a head of reads, in the text's order; behind it the tail, whose order is forced. -/
theorem region_head {P : Program} {w : World} {id : Nat} {Q : Exit → Act → World → Prop} {a : Act} {l : List Oper} (n : Nat) (hm : P.follows .mixedOrders = true) (hB : Region.lexTailB .any l.toArray n = true)
    (h : wpQuiet P l.toArray (fun w' => w' = w.drew) (fun a' => wpList P l.toArray Q (l.drop n) a' w.drew) (l.take n) a) : (Code.region id l.toArray true).wp P Q a w :=
  region_tail n hm hB (still_of_quiet _ _ h)
theorem region_quiet {P : Program} {w : World} {id : Nat} {Q : Exit → Act → World → Prop} {a : Act} {l : List Oper} (hm : P.follows .mixedOrders = true) (hB : Region.lexB .any l.toArray = true)
    (h : wpQuiet P l.toArray (fun w' => w' = w.drew) (fun a' => Q .normal a' w.drew) l a) : (Code.region id l.toArray true).wp P Q a w :=
  region_reads hm hB (still_of_quiet _ _ h)
theorem bcell {W w1 : World} (hb : Below W.heap.size W w1) : (∀ b o, b < W.heap.size → w1.cell? ⟨b, o, none⟩ = W.cell? ⟨b, o, none⟩) ∧ (∀ b o, b < W.heap.size → w1.frozen? ⟨b, o, none⟩ = W.frozen? ⟨b, o, none⟩) :=
  ⟨fun b o h => hb.cell (p := ⟨b, o, none⟩) h, fun b o h => hb.frozen (p := ⟨b, o, none⟩) h⟩
/-- One operation that yields a value, by its run. -/
theorem wpList_run {P : Program} {ops : Array Oper} {Q : Exit → Act → World → Prop} {o : Oper} {rest : List Oper} {a : Act} {w w' : World} {v : Value} (hg : o.guard = none)
    (hr : (execOp a.eval o).run P w = .ok (.value v) w') (h : wpList P ops Q rest (a.put o.dst v) w') : wpList P ops Q (o :: rest) a w :=
  wpList_plain hg fun _ hK => by unfold Oper.wp; rw [hr]; exact hK _ _ h
/-- One operation that yields nothing. -/
theorem wpList_run_skip {P : Program} {ops : Array Oper} {Q : Exit → Act → World → Prop} {o : Oper} {rest : List Oper} {a : Act} {w w' : World} (hg : o.guard = none)
    (hr : (execOp a.eval o).run P w = .ok .skip w') (h : wpList P ops Q rest (a.put o.dst undef) w') : wpList P ops Q (o :: rest) a w :=
  wpList_plain hg fun _ hK => by unfold Oper.wp; rw [hr]; exact hK _ _ h
/-- A new variable of an array's or a struct's type. -/
theorem wpList_alloc_row {P : Program} {ops : Array Oper} {Q : Exit → Act → World → Prop} {o : Oper} {rest : List Oper} {a : Act} {w : World} (hg : o.guard = none) (T : TypeId) (ho : o.op = .alloc T)
    (cs : Array Value) (hz : (P.info? T).map (·.zero) = some (some (.agg cs)))
    (h : wpList P ops Q rest (a.put o.dst (.pointer (some ⟨w.heap.size, 0, none⟩))) (w.alloc (.cells cs T))) : wpList P ops Q (o :: rest) a w := by
  refine wpList_run hg ?_ h
  unfold execOp
  cases hq : P.info? T with
  | none => simp [hq] at hz
  | some x =>
    have hx : x.zero = some (.agg cs) := by simpa [hq] using hz
    simp only [ho]
    simp [Instr.alloc, zeroValue, typeInfo, hq, hx, go_sem, Sem.run_bind, Value.cells]
/-- A whole row into the variable that was made last. -/
theorem wpList_store_new {P : Program} {ops : Array Oper} {Q : Exit → Act → World → Prop} {o : Oper} {rest : List Oper} {a : Act} {w : World} (hg : o.guard = none) (T : TypeId) (x y : Operand) (ho : o.op = .store T x y)
    (c c' : Array Value) (n : Nat) (hn : n = w.heap.size) (hx : a.eval x = .pointer (some ⟨n, 0, none⟩)) (hy : a.eval y = .agg c')
    (hi : (P.info? T).map (·.size) = some c'.size) (hs : c.size = c'.size) (h1 : c'.all (·.oneCell') = true)
    (h : wpList P ops Q rest (a.put o.dst undef) (w.alloc (.cells c' T))) : wpList P ops Q (o :: rest) a (w.alloc (.cells c T)) := by
  subst hn
  refine wpList_run_skip hg ?_ h
  unfold execOp
  simp only [ho, hx, hy]
  rw [Sem.run_bind, run_storeAt_new w T c c' hi hs h1]
  rfl
/-- An element of an array that a slot holds, of one cell each. -/
theorem run_index_arr {P : Program} (t elem : TypeId) (len : Nat) (cs : Array Value) (k kk : IntKind) (i : Int) (w : World)
    (hu : P.underlying t = some (.array len elem)) (he : P.underlying elem = some (.int kk)) (hs : (P.info? elem).map (·.size) = some 1) (h0 : 0 ≤ i) (h1 : i < (len : Int)) (hc : cs.size = len) :
    (Instr.index t (.agg cs) (.int k i)).run P w = .ok (cs[i.toNat]?.getD undef) w := by
  have hi : i.toNat < cs.size := by omega
  have hsz : (sizeOf elem).run P w = .ok 1 w := by
    cases hq : P.info? elem with
    | none => simp [hq] at hs
    | some x =>
      have hx : x.size = 1 := by simpa [hq] using hs
      simp [sizeOf, typeInfo, hq, hx, Sem.run_bind]
  have hag : (isAgg elem).run P w = .ok false w := by
    unfold isAgg
    rw [Sem.run_bind, run_underlying he w]
    simp
  have hp : (part elem cs (i.toNat * 1)).run P w = .ok (cs[i.toNat]?.getD undef) w := by
    unfold part
    rw [Sem.run_bind, hag]
    simp [hi]
  unfold Instr.index
  simp only [Sem.run_bind, asIntOf, Sem.run_pure, Result.andThen_ok, run_underlying hu w]
  rw [if_pos ⟨h0, h1⟩]
  simp only [Sem.run_bind, hsz, Result.andThen_ok]
  exact hp
theorem ret_u32 {a b : BitVec 32} (h : a = b) : Ending.returned (.int .u32 (n32 a)) = .returned (.int .u32 (n32 b)) := by rw [h]
theorem n32_nonneg_t (x : BitVec 32) : (0 ≤ n32 x) = True := eq_true (n32_nonneg x)
theorem n8_nonneg_t (x : BitVec 8) : (0 ≤ n8 x) = True := eq_true (n8_nonneg x)
theorem n8_lt_t (x : BitVec 8) : (n8 x < 256) = True := eq_true (n8_lt x)
theorem n32_and255 (x : BitVec 32) : n32 (x &&& 255#32) < 256 := by
  have h : ix32 (x &&& 255#32) < 256 := by
    unfold ix32
    rw [BitVec.toNat_and]
    exact Nat.lt_of_le_of_lt Nat.and_le_right (by decide)
  rw [n32_ix]; omega
theorem n32_shr24 (x : BitVec 32) : n32 (x >>> 24) < 256 := by
  have h : ix32 (x >>> 24) < 256 := by
    unfold ix32
    have hx := x.isLt
    rw [BitVec.toNat_ushiftRight, Nat.shiftRight_eq_div_pow]
    omega
  rw [n32_ix]; omega
theorem n32_and255_t (x : BitVec 32) : (n32 (x &&& 255#32) < 256) = True := eq_true (n32_and255 x)
theorem n32_shr24_t (x : BitVec 32) : (n32 (x >>> 24) < 256) = True := eq_true (n32_shr24 x)
theorem ix32_and255 (x : BitVec 32) : ix32 (x &&& 255#32) < 256 := by have := n32_and255 x; rw [n32_ix] at this; omega
theorem ix32_shr24 (x : BitVec 32) : ix32 (x >>> 24) < 256 := by have := n32_shr24 x; rw [n32_ix] at this; omega
theorem ix32_and255_t (x : BitVec 32) : (ix32 (x &&& 255#32) < 256) = True := eq_true (ix32_and255 x)
theorem ix32_shr24_t (x : BitVec 32) : (ix32 (x >>> 24) < 256) = True := eq_true (ix32_shr24 x)
attribute [go_sem] n32_nonneg_t n8_nonneg_t n8_lt_t n32_and255_t n32_shr24_t ix32_and255_t ix32_shr24_t
end Go.Proofs.YtjbpjoondmcnlabDoor
/-
  A REGION THAT DRAWS ITS ORDER: a head whose operations yield one value in every world of a class (reads; calls that leave a world of the class), and behind it a tail whose order is forced. One walk of the head in the text's order serves every order.
-/
namespace Go.Proofs.YtjbpjoondmcnlabDoor
open Go Go.RowKit
section
variable {P : Program} {ops : Array Oper} {md : Region.Mode} {C : World → Prop}
/-- The head in whatever order: f operations, each below n, then L. -/
def headQ (P : Program) (md : Region.Mode) (ops : Array Oper) (C : World → Prop) (n : Nat) (L : Array Bool → Act → Prop) : Nat → Array Bool → Act → Prop
  | 0, listed, a => L listed a
  | f + 1, listed, a => Region.ready md ops listed ≠ [] ∧ ∀ i ∈ Region.ready md ops listed, i < n ∧ qOp P ops C i (headQ P md ops C n L f (listed.setIfInBounds i true)) a
theorem wpAny_of_headQ {n g : Nat} {L : Array Bool → Act → Prop} {Q' : Exit → Act → World → Prop} (hL : ∀ listed a w, C w → L listed a → wpAny P md ops Q' g listed a w) :
    ∀ (f : Nat) (listed : Array Bool) (a : Act) (w : World), C w → headQ P md ops C n L f listed a → wpAny P md ops Q' (f + g) listed a w := by
  intro f
  induction f with
  | zero => intro listed a w hw h; rw [Nat.zero_add]; exact hL _ _ _ hw h
  | succ f ih =>
    intro listed a w hw h
    rw [show f + 1 + g = (f + g) + 1 by omega]
    exact ⟨fun h0 => absurd h0 h.1, fun i hi => wpOp_of_qOp hw (fun a' w' hw' h' => ih _ a' w' hw' h') (h.2 i hi).2⟩
theorem below_n {n i j : Nat} {listed : Array Bool} (hs : Region.sinkB md ops n = true) (hc : Region.chainB md ops n = true) (hn : n < ops.size) (hin : i < n) (inv : HeadInv md ops n listed)
    (hun : listed.getD i true = false) (hj : j ∈ Region.ready md ops listed) : j < n := by
  rcases Nat.lt_or_ge j n with h | h
  · exact h
  · exact absurd hj (tail_waits hs hc hn inv _ i rfl hin hun j h)
/-- An operation of the head that may come up now may be taken first. -/
theorem headQ_first {n i : Nat} {oi : Oper} {v : Value} {L : Array Bool → Act → Prop} (hi : ops[i]? = some oi) (hsel : ∀ (j : Nat) (o : Oper) cs b, ops[j]? = some o → o.op ≠ .select cs b)
    (hs : Region.sinkB md ops n = true) (hc : Region.chainB md ops n = true) (hn : n < ops.size) (hin : i < n) (hdone : ∀ listed a, L listed a → ∀ j ∈ Region.ready md ops listed, n ≤ j) :
    ∀ (f : Nat) (listed : Array Bool) (a : Act), HeadInv md ops n listed →
      (∀ j oj, ops[j]? = some oj → j ≠ i → listed.getD j true = false → (∀ e ∈ oj.after, Region.binds md e = true → e.on ≠ i) → oi.apart ops oj = true) →
      i ∈ Region.ready md ops listed → YieldsIn P ops C oi v a →
      headQ P md ops C n L f (listed.setIfInBounds i true) (a.put oi.dst v) → headQ P md ops C n L (f + 1) listed a := by
  intro f
  induction f with
  | zero =>
    intro listed a inv _ hr hy H
    refine ⟨fun h => (by rw [h] at hr; cases hr), fun j hj => ?_⟩
    have hjn := below_n hs hc hn hin inv (mem_ready.1 hr).1 hj
    refine ⟨hjn, ?_⟩
    by_cases hji : j = i
    · subst hji; exact hy.qOp hi H
    · have := hdone _ _ H j (ready_mono hj hji)
      omega
  | succ f ih =>
    intro listed a inv hfree hr hy H
    have hun := (mem_ready.1 hr).1
    refine ⟨fun h => (by rw [h] at hr; cases hr), fun j hj => ?_⟩
    have hjn := below_n hs hc hn hin inv hun hj
    refine ⟨hjn, ?_⟩
    by_cases hji : j = i
    · subst hji; exact hy.qOp hi H
    obtain ⟨hjun, oj, hoj, hall⟩ := mem_ready.1 hj
    have hnot : ∀ e ∈ oj.after, Region.binds md e = true → e.on ≠ i := fun e he hb heq => by
      have h1 := hall e he hb
      rw [heq, getD_both hun] at h1
      cases h1
    have h2 := qOp_put hoj (hfree j oj hoj hji hjun hnot) (fun cs b => hsel i oi cs b hi) (fun cs b => hsel j oj cs b hoj) hy (H.2 j (ready_mono hj hji)).2
    refine qOp_mono (fun a' h3 => ih (listed.setIfInBounds j true) a' (inv.set hj hjn) (fun k ok hk hki hkun hno => ?_) (ready_mono hr (Ne.symm hji)) h3.1 ?_) h2
    · refine hfree k ok hk hki ?_ hno
      by_cases hjk : j = k
      · subst hjk; exact hjun
      · rw [getD_set_ne true hjk] at hkun; exact hkun
    · rw [Array.setIfInBounds_comm _ _ hji]
      exact h3.2
theorem headQ_lex {n g : Nat} {Lq : Act → Prop} (hsel : Region.noSelect ops = true) (hs : Region.sinkB md ops n = true) (hc : Region.chainB md ops n = true) (hn : n < ops.size) :
    ∀ (l : List Oper) (k : Nat) (listed : Array Bool) (a : Act), (∀ j, j < l.length → l[j]? = ops[k + j]?) → k + l.length = n → HeadInv md ops n listed →
    Region.lexHead md ops g l.length k listed = true → wpQuiet P ops C Lq l a →
    headQ P md ops C n (fun listed' a' => Region.seqB md ops g n listed' = true ∧ Lq a') l.length listed a := by
  intro l
  induction l with
  | nil =>
    intro k listed a _ hk _ hB h
    have : k = n := by simpa using hk
    subst this
    exact ⟨by simpa [Region.lexHead] using hB, h⟩
  | cons o l ih =>
    intro k listed a hl hk inv hB h
    have h0 : ops[k]? = some o := by simpa using (hl 0 (by simp)).symm
    simp only [List.length_cons, Region.lexHead, Bool.and_eq_true] at hB
    obtain ⟨⟨hr, hf⟩, hB'⟩ := hB
    have hkn : k < n := by simp only [List.length_cons] at hk; omega
    have hr' : k ∈ Region.ready md ops listed := by simpa using hr
    have hst : qOp P ops C k (wpQuiet P ops C Lq l) a := by unfold qOp; simp only [h0]; exact h
    obtain ⟨v, hy, hK⟩ := yieldsIn_of_qOp h0 hst
    refine headQ_first h0 (Region.noSelect_spec hsel) hs hc hn hkn (fun listed' a' hL => seqB_ready hL.1) l.length listed a inv (Region.free_spec h0 hf) hr' hy ?_
    exact ih (k + 1) _ _ (fun j hj => by have := hl (j + 1) (by simp; omega); simpa [Nat.add_assoc, Nat.add_comm 1 j] using this) (by simp only [List.length_cons] at hk; omega) (inv.set hr' hkn) hB' hK
/-- THE LAW. -/
theorem region_class {id : Nat} {Q : Exit → Act → World → Prop} {a : Act} {w : World} {l : List Oper} (n : Nat) (C : World → Prop) (hm : P.follows .mixedOrders = true) (hB : Region.lexTailB .any l.toArray n = true) (hC : C w.drew)
    (h : wpQuiet P l.toArray C (fun a' => ∀ w', C w' → wpList P l.toArray Q (l.drop n) a' w') (l.take n) a) : (Code.region id l.toArray true).wp P Q a w := by
  simp only [Region.lexTailB, Bool.and_eq_true, decide_eq_true_eq] at hB
  obtain ⟨⟨⟨⟨hsel, hn⟩, hs⟩, hc⟩, hlex⟩ := hB
  have hn' : n < l.length := by simpa using hn
  have htl : (l.take n).length = n := by simp; omega
  have hdl : (l.drop n).length = l.toArray.size - n := by simp
  have inv0 : HeadInv .any l.toArray n (Array.replicate l.toArray.size false) :=
    ⟨by simp, fun j oj _ hl => (by rw [getD_replicate_false] at hl; cases hl), fun t _ ht => getD_in (by simpa using ht) (getD_replicate_false _ _)⟩
  have H := headQ_lex (C := C) (md := .any) (g := l.toArray.size - n) hsel hs hc hn (l.take n) 0 _ a (fun j hj => by
    have hj' : j < n := by rw [htl] at hj; exact hj
    simp [hj']) (by simpa using htl) inv0 (by rw [htl]; exact hlex) h
  refine wp_region_any hm ?_
  have := wpAny_of_headQ (Q' := Q) (g := l.toArray.size - n) (fun listed a' w' hw' hL => by
    have := wpAny_of_seq (md := .any) (Q' := Q) (l.drop n) n listed a' w' (fun j => by simp [List.getElem?_drop]) (by rw [hdl]; exact hL.1) (hL.2 w' hw')
    rwa [hdl] at this) _ _ _ _ hC H
  rw [htl, show n + (l.toArray.size - n) = l.toArray.size by omega] at this
  exact this
end
end Go.Proofs.YtjbpjoondmcnlabDoor
/-
  WHOLE ROWS IN BLOCKS THAT ARE KNOWN BY WHAT THEY HOLD: a store of a whole array or struct, a return of one.
-/
namespace Go.Proofs.YtjbpjoondmcnlabDoor
open Go Go.RowKit Go.BigFrame
theorem setCells_row (B : Nat) (T : TypeId) : ∀ (vs : List Value) (o : Nat) (w : World) (cs : Array Value), w.heap[B]? = some (.cells cs T (0, 0)) →
    ∃ cs' : Array Value, (w.setCells B o vs).heap[B]? = some (.cells cs' T (0, 0)) ∧ cs'.size = cs.size ∧ ∀ j, cs'[j]? = if o ≤ j ∧ j < o + vs.length ∧ j < cs.size then vs[j - o]? else cs[j]?
  | [], o, w, cs, hg => ⟨cs, hg, rfl, fun j => by rw [if_neg (by simp; omega)]⟩
  | v :: vs, o, w, cs, hg => by
    obtain ⟨cs', h1, h2, h3⟩ := setCells_row B T vs (o + 1) _ _ (heap_setCell_same w B o cs T v hg)
    refine ⟨cs', h1, by simpa using h2, fun j => ?_⟩
    rw [h3]
    by_cases hj : o + 1 ≤ j ∧ j < o + 1 + vs.length ∧ j < cs.size
    · rw [if_pos (by simpa using hj), if_pos (by simp; omega)]
      rw [show j - o = (j - (o + 1)) + 1 by omega]
      rfl
    · rw [if_neg (by simpa using hj), Array.getElem?_setIfInBounds]
      by_cases hoj : o = j
      · subst hoj
        by_cases hs : o < cs.size
        · rw [if_pos rfl, if_pos hs, if_pos (by simp; omega)]; simp
        · rw [if_pos rfl, if_neg hs, if_neg (by omega), Array.getElem?_eq_none (by omega)]
      · rw [if_neg hoj, if_neg (by simp at hj ⊢; omega)]
theorem setCells_all (w : World) (B : Nat) (T : TypeId) (cs cs' : Array Value) (hg : w.heap[B]? = some (.cells cs T (0, 0))) (hs : cs.size = cs'.size) :
    (w.setCells B 0 cs'.toList).heap[B]? = some (.cells cs' T (0, 0)) := by
  obtain ⟨c, h1, h2, h3⟩ := setCells_row B T cs'.toList 0 w cs hg
  rw [h1]
  congr 2
  apply Array.ext_getElem?
  intro j
  rw [h3]
  by_cases hj : j < cs'.size
  · rw [if_pos (by simp; omega)]; simp
  · rw [if_neg (by simp; omega), Array.getElem?_eq_none (by omega), Array.getElem?_eq_none (by omega)]
theorem setCells_below (b B : Nat) (hb : b ≤ B) : ∀ (vs : List Value) (o : Nat) (w0 w : World), Below b w0 w → Below b w0 (w.setCells B o vs)
  | [], _, _, _, h => h
  | v :: vs, o, _, _, h => setCells_below b B hb vs (o + 1) _ _ (h.setCell hb v)
theorem setCells_other (B k : Nat) (hk : k ≠ B) : ∀ (vs : List Value) (o : Nat) (w : World), (w.setCells B o vs).heap[k]? = w.heap[k]?
  | [], _, _ => rfl
  | v :: vs, o, w => by rw [World.setCells, setCells_other B k hk vs (o + 1), heap_setCell_other _ _ _ _ hk]
theorem setCells_size (B : Nat) : ∀ (vs : List Value) (o : Nat) (w : World), (w.setCells B o vs).heap.size = w.heap.size
  | [], _, _ => rfl
  | v :: vs, o, w => by rw [World.setCells, setCells_size B vs (o + 1)]; simp [World.setCell]
/-- What a store into block B leaves: B's new row; all else as it was. -/
structure RowSet (w : World) (B : Nat) (T : TypeId) (c : Array Value) (w' : World) : Prop where
  row : w'.heap[B]? = some (.cells c T (0, 0))
  other : ∀ k, k ≠ B → w'.heap[k]? = w.heap[k]?
  size : w'.heap.size = w.heap.size
  below : ∀ b, b ≤ B → Below b w w'
theorem rowSet_store (w : World) (B : Nat) (T : TypeId) (cs cs' : Array Value) (hg : w.heap[B]? = some (.cells cs T (0, 0))) (hs : cs.size = cs'.size) : RowSet w B T cs' (w.setCells B 0 cs'.toList) :=
  ⟨setCells_all w B T cs cs' hg hs, fun k hk => setCells_other B k hk _ _ _, setCells_size B _ _ _, fun b hb => setCells_below b B hb _ _ _ _ (Below.refl _ _)⟩
theorem rowSet_cell (w : World) (B j : Nat) (T : TypeId) (cs : Array Value) (v : Value) (hg : w.heap[B]? = some (.cells cs T (0, 0))) : RowSet w B T (cs.setIfInBounds j v) (w.setCell ⟨B, j, none⟩ v) :=
  ⟨heap_setCell_same w B j cs T v hg, fun k hk => heap_setCell_other _ _ _ _ hk, by simp [World.setCell], fun b hb => (Below.refl _ _).setCell hb v⟩
theorem wpList_store_row {P : Program} {ops : Array Oper} {rest : List Oper} {op : Oper} {a : Act} {w : World} {Q : Exit → Act → World → Prop} (hgd : op.guard = none) (ty : TypeId) (x y : Operand) (ho : op.op = .store ty x y)
    (B : Nat) (T : TypeId) (cs cells : Array Value) (hx : a.eval x = .pointer (some ⟨B, 0, none⟩)) (hy : a.eval y = .agg cells)
    (hg : w.heap[B]? = some (.cells cs T (0, 0))) (hs : cs.size = cells.size) (hi : (P.info? ty).map (·.size) = some cells.size) (h1 : cells.all (·.oneCell') = true)
    (h : ∀ w', RowSet w B T cells w' → wpList P ops Q rest (a.put op.dst undef) w') : wpList P ops Q (op :: rest) a w := by
  refine wpList_store_mid hgd ty x y ho B 0 cells hx hy (fun j hj => ?_) hi h1 (h _ (rowSet_store w B T cs cells hg hs))
  rw [Nat.zero_add]
  refine ⟨?_, frozen_of_row _ _ _ _ _ hg⟩
  rw [cell_of_row _ _ _ _ _ _ hg, Array.getElem?_eq_getElem (by omega)]
  rfl
theorem ret_row {P : Program} {fn : Func} {R : Ending → World → Prop} {a : Act} {w : World} (B : Nat) (T ty : TypeId) (cs : Array Value) {p : Tmp} (h : fn.results = #[.cell p ty]) (d : TypeDesc)
    (hp : a.tmps.getD p undef = .pointer (some ⟨B, 0, none⟩)) (hg : w.heap[B]? = some (.cells cs T (0, 0)))
    (hu : P.underlying ty = some d) (hd : (match d with | .struct _ | .array _ _ => true | _ => false) = true) (hi : (P.info? ty).map (·.size) = some cs.size)
    (hdf : a.defers = []) (hR : R (.returned (.agg cs)) w) : bodyPost P fn R .ret a w :=
  bodyPost_ret (results_cell_row h a.tmps w B T cs (0, 0) d hp hg hu hd hi) hdf hR
theorem RowSet.keep {w w' : World} {B k : Nat} {T : TypeId} {c : Array Value} (h : RowSet w B T c w') (hk : k ≠ B) {o : Option Obj} (e : w.heap[k]? = o) : w'.heap[k]? = o := by rw [h.other k hk, e]
theorem below_row {w w' : World} {B k : Nat} (h : Below B w w') (hk : k < B) {o : Option Obj} (e : w.heap[k]? = o) : w'.heap[k]? = o := by rw [h.block k hk, e]
theorem alloc_heap (w : World) (o : Obj) : (w.alloc o).heap = w.heap.push o := rfl
theorem heap_foldl : ∀ (l : List Obj) (w : World), (l.foldl World.alloc w).heap = w.heap ++ l.toArray
  | [], w => by simp
  | o :: l, w => by rw [List.foldl_cons, heap_foldl l]; simp [alloc_heap]
/-- What new variables hold, one behind the other. -/
theorem rows_alloc (w : World) (l : List Obj) (i : Nat) : (l.foldl World.alloc w).heap[w.heap.size + i]? = l[i]? := by
  rw [heap_foldl, Array.getElem?_append_right (by omega)]; simp
theorem lt_row {w : World} {k : Nat} {o : Obj} (h : w.heap[k]? = some o) : k < w.heap.size := by
  rcases Nat.lt_or_ge k w.heap.size with h1 | h1
  · exact h1
  · rw [Array.getElem?_eq_none h1] at h; cases h
/-- A region that draws its order: a head in a class of worlds, and one last operation. -/
theorem region_class1 {P : Program} {id : Nat} {Q : Exit → Act → World → Prop} {a : Act} {w : World} {l : List Oper} (n : Nat) (C : World → Prop) {o : Oper} (hm : P.follows .mixedOrders = true) (hB : Region.lexTailB .any l.toArray n = true) (hC : C w.drew)
    (hd : l.drop n = [o])
    (h : wpQuiet P l.toArray C (fun a' => ∀ w', C w' → wpList P l.toArray Q [o] a' w') (l.take n) a) : (Code.region id l.toArray true).wp P Q a w := by
  refine region_class n C hm hB hC ?_
  rw [hd]
  exact h
theorem wpQuiet_take {P : Program} {ops : Array Oper} {C : World → Prop} {Q : Act → Prop} {a : Act} {o : Oper} {rest : List Oper} {n : Nat} (hw : Region.wanted o (yielded ops a.tmps) = true)
    (h : ∀ K : Act → Prop, (∀ a, wpQuiet P ops C Q (rest.take n) a → K a) → o.quiet P a C K) : wpQuiet P ops C Q ((o :: rest).take (n + 1)) a := by
  rw [List.take_succ_cons]
  exact wpQuiet_want hw h
theorem wpQuiet_take0 {P : Program} {ops : Array Oper} {C : World → Prop} {Q : Act → Prop} {a : Act} {l : List Oper} (h : Q a) : wpQuiet P ops C Q (l.take 0) a := by
  rw [List.take_zero]
  exact h
end Go.Proofs.YtjbpjoondmcnlabDoor
/-
  SHA-256 AS PLAIN FUNCTIONS: words of bytes, the schedule, the rounds, the state behind some blocks, the padding, the sum.
-/
namespace Go.Proofs.YtjbpjoondmcnlabDoor
set_option linter.unusedSimpArgs false
set_option linter.unusedVariables false
theorem bytes_apart (a b : BitVec 8) (s t : Nat) (h : t + 8 ≤ s) : (a.setWidth 32 <<< s) &&& (b.setWidth 32 <<< t) = 0#32 := by
  ext i hi
  simp only [BitVec.getElem_and, BitVec.getElem_shiftLeft, BitVec.getElem_zero, BitVec.getElem_setWidth]
  by_cases h1 : i < s
  · simp [h1]
  · have h2 : ¬ i < t := by omega
    simp [h1, h2]
    intro _
    exact BitVec.getLsbD_of_ge _ _ (by omega)
theorem or_apart (x y z : BitVec 32) (h1 : x &&& z = 0#32) (h2 : y &&& z = 0#32) : (x ||| y) &&& z = 0#32 := by
  ext i hi
  have e1 := congrArg (fun v : BitVec 32 => v.getLsbD i) h1
  have e2 := congrArg (fun v : BitVec 32 => v.getLsbD i) h2
  simp [BitVec.getLsbD_eq_getElem hi] at e1 e2 ⊢
  intro h3
  rcases h3 with h3 | h3
  · exact e1 h3
  · exact e2 h3
/-- Four bytes, the highest first. -/
def beW (a b c d : BitVec 8) : BitVec 32 := a.setWidth 32 <<< 24 ||| b.setWidth 32 <<< 16 ||| c.setWidth 32 <<< 8 ||| d.setWidth 32
theorem beW_add (a b c d : BitVec 8) : a.setWidth 32 <<< 24 + b.setWidth 32 <<< 16 + c.setWidth 32 <<< 8 + d.setWidth 32 = beW a b c d := by
  have p1 := bytes_apart a b 24 16 (by omega)
  have p2 := or_apart _ _ _ (bytes_apart a c 24 8 (by omega)) (bytes_apart b c 16 8 (by omega))
  have z : d.setWidth 32 <<< 0 = d.setWidth 32 := BitVec.shiftLeft_zero _
  have q1 := bytes_apart a d 24 0 (by omega)
  have q2 := bytes_apart b d 16 0 (by omega)
  have q3 := bytes_apart c d 8 0 (by omega)
  rw [z] at q1 q2 q3
  have p3 := or_apart _ _ _ (or_apart _ _ _ q1 q2) q3
  unfold beW
  rw [BitVec.add_eq_or_of_and_eq_zero _ _ p1, BitVec.add_eq_or_of_and_eq_zero _ _ p2, BitVec.add_eq_or_of_and_eq_zero _ _ p3]
/-- Turned to the right. -/
def rotR (x : BitVec 32) (n : Nat) : BitVec 32 := x >>> n ||| x <<< (32 - n)
theorem rotR_left (x : BitVec 32) (n : Nat) : x <<< (32 - n) ||| x >>> n = rotR x n := BitVec.or_comm _ _
def sig0 (x : BitVec 32) : BitVec 32 := rotR x 7 ^^^ rotR x 18 ^^^ x >>> 3
def sig1 (x : BitVec 32) : BitVec 32 := rotR x 17 ^^^ rotR x 19 ^^^ x >>> 10
/-- A block's words, one for each step. -/
def schedW (f : Nat → BitVec 8) (n : Nat) : BitVec 32 :=
  if h : n < 16 then beW (f (4 * n)) (f (4 * n + 1)) (f (4 * n + 2)) (f (4 * n + 3))
  else sig1 (schedW f (n - 2)) + schedW f (n - 7) + sig0 (schedW f (n - 15)) + schedW f (n - 16)
termination_by n
decreasing_by all_goals omega
theorem schedW_low (f : Nat → BitVec 8) {n : Nat} (h : n < 16) : schedW f n = beW (f (4 * n)) (f (4 * n + 1)) (f (4 * n + 2)) (f (4 * n + 3)) := by rw [schedW, dif_pos h]
theorem schedW_high (f : Nat → BitVec 8) {n : Nat} (h : 16 ≤ n) : schedW f n = sig1 (schedW f (n - 2)) + schedW f (n - 7) + sig0 (schedW f (n - 15)) + schedW f (n - 16) := by rw [schedW, dif_neg (by omega)]
theorem schedW_doc (f : Nat → BitVec 8) {n : Nat} (h : 16 ≤ n) : schedW f (n - 16) + sig0 (schedW f (n - 15)) + schedW f (n - 7) + sig1 (schedW f (n - 2)) = schedW f n := by
  rw [schedW_high f h]
  ac_rfl
theorem schedW_congr {f g : Nat → BitVec 8} (h : ∀ i, i < 64 → f i = g i) : ∀ n, n < 64 → schedW f n = schedW g n := by
  intro n
  induction n using Nat.strongRecOn with
  | _ n ih =>
    intro hn
    by_cases h16 : n < 16
    · rw [schedW_low f h16, schedW_low g h16, h _ (by omega), h _ (by omega), h _ (by omega), h _ (by omega)]
    · rw [schedW_high f (by omega), schedW_high g (by omega), ih (n - 2) (by omega) (by omega), ih (n - 7) (by omega) (by omega), ih (n - 15) (by omega) (by omega), ih (n - 16) (by omega) (by omega)]
/-- Eight words. -/
structure W8 where
  a : BitVec 32
  b : BitVec 32
  c : BitVec 32
  d : BitVec 32
  e : BitVec 32
  f : BitVec 32
  g : BitVec 32
  h : BitVec 32
def W8.one (v : W8) (k w : BitVec 32) : BitVec 32 := v.h + (rotR v.e 6 ^^^ rotR v.e 11 ^^^ rotR v.e 25) + ((v.e &&& v.f) ^^^ (~~~v.e &&& v.g)) + k + w
def W8.two (v : W8) : BitVec 32 := (rotR v.a 2 ^^^ rotR v.a 13 ^^^ rotR v.a 22) + ((v.a &&& v.b) ^^^ (v.a &&& v.c) ^^^ (v.b &&& v.c))
/-- One step. -/
def W8.step (v : W8) (k w : BitVec 32) : W8 := ⟨v.one k w + v.two, v.a, v.b, v.c, v.d + v.one k w, v.e, v.f, v.g⟩
def W8.add (v u : W8) : W8 := ⟨v.a + u.a, v.b + u.b, v.c + u.c, v.d + u.d, v.e + u.e, v.f + u.f, v.g + u.g, v.h + u.h⟩
/-- So many steps. -/
def W8.steps (k w : Nat → BitVec 32) (v : W8) : Nat → W8
  | 0 => v
  | n + 1 => (W8.steps k w v n).step (k n) (w n)
theorem W8.steps_congr {k w w' : Nat → BitVec 32} {v : W8} : ∀ n, (∀ i, i < n → w i = w' i) → W8.steps k w v n = W8.steps k w' v n
  | 0, _ => rfl
  | n + 1, h => by
    show (W8.steps k w v n).step (k n) (w n) = (W8.steps k w' v n).step (k n) (w' n)
    rw [W8.steps_congr n (fun i hi => h i (by omega)), h n (by omega)]
/-- Behind one block more. -/
def W8.turn (k : Nat → BitVec 32) (v : W8) (f : Nat → BitVec 8) : W8 := v.add (W8.steps k (schedW f) v 64)
theorem W8.turn_congr {k : Nat → BitVec 32} {v : W8} {f g : Nat → BitVec 8} (h : ∀ i, i < 64 → f i = g i) : v.turn k f = v.turn k g := by
  unfold W8.turn
  rw [W8.steps_congr 64 (fun i hi => schedW_congr h i hi)]
/-- Behind so many blocks of bytes. -/
def W8.blocks (k : Nat → BitVec 32) (v : W8) (f : Nat → BitVec 8) : Nat → W8
  | 0 => v
  | n + 1 => (W8.blocks k v f n).turn k (fun i => f (64 * n + i))
theorem W8.blocks_congr {k : Nat → BitVec 32} {v : W8} {f g : Nat → BitVec 8} : ∀ n, (∀ i, i < 64 * n → f i = g i) → W8.blocks k v f n = W8.blocks k v g n
  | 0, _ => rfl
  | n + 1, h => by
    show (W8.blocks k v f n).turn k _ = (W8.blocks k v g n).turn k _
    rw [W8.blocks_congr n (fun i hi => h i (by omega)), W8.turn_congr (fun i hi => h (64 * n + i) (by omega))]
/-- Bytes with what ends them: a one, noughts, and the count of bits in eight bytes. -/
def padded (f : Nat → BitVec 8) (n : Nat) (i : Nat) : BitVec 8 :=
  if i < n then f i else if i = n then 128#8 else if 64 * ((n + 8) / 64 + 1) - 8 ≤ i then BitVec.ofNat 8 (n * 8 / 256 ^ (64 * ((n + 8) / 64 + 1) - 1 - i)) else 0#8
theorem padded_congr {f g : Nat → BitVec 8} {n : Nat} (h : ∀ i, i < n → f i = g i) (i : Nat) : padded f n i = padded g n i := by
  unfold padded
  by_cases hi : i < n
  · rw [if_pos hi, if_pos hi, h i hi]
  · rw [if_neg hi, if_neg hi]
def W8.get (v : W8) : Nat → BitVec 32
  | 0 => v.a
  | 1 => v.b
  | 2 => v.c
  | 3 => v.d
  | 4 => v.e
  | 5 => v.f
  | 6 => v.g
  | _ => v.h
/-- The sum's bytes. -/
def sumB (k : Nat → BitVec 32) (v : W8) (f : Nat → BitVec 8) (n : Nat) (i : Nat) : BitVec 8 :=
  ((W8.blocks k v (padded f n) ((n + 8) / 64 + 1)).get (i / 4) >>> (24 - 8 * (i % 4))).setWidth 8
theorem sumB_congr {k : Nat → BitVec 32} {v : W8} {f g : Nat → BitVec 8} {n : Nat} (h : ∀ i, i < n → f i = g i) (i : Nat) : sumB k v f n i = sumB k v g n i := by
  unfold sumB
  rw [W8.blocks_congr _ (fun j _ => padded_congr h j)]
end Go.Proofs.YtjbpjoondmcnlabDoor
/-
  sha: WORDS TURNED (math/bits.RotateLeft32), AND THE DOCUMENT'S turn.
-/
namespace Go.Proofs.YtjbpjoondmcnlabDoor
open Go Go.RowKit Go.BigFrame
set_option linter.unusedSimpArgs false
set_option linter.unusedVariables false
theorem rotl2 (x : BitVec 32) (w : World) : Calls Tryd.prog 86 #[.int .u32 (n32 x), .int .i64 (-2)] w fun e w' => e = .returned (.int .u32 (n32 (rotR x 2))) ∧ w = w' := by
  have e : bits BinOp.and IntKind.u64 (IntKind.u64.wrap (-2)) 31 = 30 := by kernel_rfl
  go_enter Tryd.func86, Tryd.ntmps86
  go_wp2_with fail
  go_ret
  exact ⟨ret_u32 (rotR_left x 2), rfl⟩
theorem rotl6 (x : BitVec 32) (w : World) : Calls Tryd.prog 86 #[.int .u32 (n32 x), .int .i64 (-6)] w fun e w' => e = .returned (.int .u32 (n32 (rotR x 6))) ∧ w = w' := by
  have e : bits BinOp.and IntKind.u64 (IntKind.u64.wrap (-6)) 31 = 26 := by kernel_rfl
  go_enter Tryd.func86, Tryd.ntmps86
  go_wp2_with fail
  go_ret
  exact ⟨ret_u32 (rotR_left x 6), rfl⟩
theorem rotl7 (x : BitVec 32) (w : World) : Calls Tryd.prog 86 #[.int .u32 (n32 x), .int .i64 (-7)] w fun e w' => e = .returned (.int .u32 (n32 (rotR x 7))) ∧ w = w' := by
  have e : bits BinOp.and IntKind.u64 (IntKind.u64.wrap (-7)) 31 = 25 := by kernel_rfl
  go_enter Tryd.func86, Tryd.ntmps86
  go_wp2_with fail
  go_ret
  exact ⟨ret_u32 (rotR_left x 7), rfl⟩
theorem rotl11 (x : BitVec 32) (w : World) : Calls Tryd.prog 86 #[.int .u32 (n32 x), .int .i64 (-11)] w fun e w' => e = .returned (.int .u32 (n32 (rotR x 11))) ∧ w = w' := by
  have e : bits BinOp.and IntKind.u64 (IntKind.u64.wrap (-11)) 31 = 21 := by kernel_rfl
  go_enter Tryd.func86, Tryd.ntmps86
  go_wp2_with fail
  go_ret
  exact ⟨ret_u32 (rotR_left x 11), rfl⟩
theorem rotl13 (x : BitVec 32) (w : World) : Calls Tryd.prog 86 #[.int .u32 (n32 x), .int .i64 (-13)] w fun e w' => e = .returned (.int .u32 (n32 (rotR x 13))) ∧ w = w' := by
  have e : bits BinOp.and IntKind.u64 (IntKind.u64.wrap (-13)) 31 = 19 := by kernel_rfl
  go_enter Tryd.func86, Tryd.ntmps86
  go_wp2_with fail
  go_ret
  exact ⟨ret_u32 (rotR_left x 13), rfl⟩
theorem rotl17 (x : BitVec 32) (w : World) : Calls Tryd.prog 86 #[.int .u32 (n32 x), .int .i64 (-17)] w fun e w' => e = .returned (.int .u32 (n32 (rotR x 17))) ∧ w = w' := by
  have e : bits BinOp.and IntKind.u64 (IntKind.u64.wrap (-17)) 31 = 15 := by kernel_rfl
  go_enter Tryd.func86, Tryd.ntmps86
  go_wp2_with fail
  go_ret
  exact ⟨ret_u32 (rotR_left x 17), rfl⟩
theorem rotl18 (x : BitVec 32) (w : World) : Calls Tryd.prog 86 #[.int .u32 (n32 x), .int .i64 (-18)] w fun e w' => e = .returned (.int .u32 (n32 (rotR x 18))) ∧ w = w' := by
  have e : bits BinOp.and IntKind.u64 (IntKind.u64.wrap (-18)) 31 = 14 := by kernel_rfl
  go_enter Tryd.func86, Tryd.ntmps86
  go_wp2_with fail
  go_ret
  exact ⟨ret_u32 (rotR_left x 18), rfl⟩
theorem rotl19 (x : BitVec 32) (w : World) : Calls Tryd.prog 86 #[.int .u32 (n32 x), .int .i64 (-19)] w fun e w' => e = .returned (.int .u32 (n32 (rotR x 19))) ∧ w = w' := by
  have e : bits BinOp.and IntKind.u64 (IntKind.u64.wrap (-19)) 31 = 13 := by kernel_rfl
  go_enter Tryd.func86, Tryd.ntmps86
  go_wp2_with fail
  go_ret
  exact ⟨ret_u32 (rotR_left x 19), rfl⟩
theorem rotl22 (x : BitVec 32) (w : World) : Calls Tryd.prog 86 #[.int .u32 (n32 x), .int .i64 (-22)] w fun e w' => e = .returned (.int .u32 (n32 (rotR x 22))) ∧ w = w' := by
  have e : bits BinOp.and IntKind.u64 (IntKind.u64.wrap (-22)) 31 = 10 := by kernel_rfl
  go_enter Tryd.func86, Tryd.ntmps86
  go_wp2_with fail
  go_ret
  exact ⟨ret_u32 (rotR_left x 22), rfl⟩
theorem rotl25 (x : BitVec 32) (w : World) : Calls Tryd.prog 86 #[.int .u32 (n32 x), .int .i64 (-25)] w fun e w' => e = .returned (.int .u32 (n32 (rotR x 25))) ∧ w = w' := by
  have e : bits BinOp.and IntKind.u64 (IntKind.u64.wrap (-25)) 31 = 7 := by kernel_rfl
  go_enter Tryd.func86, Tryd.ntmps86
  go_wp2_with fail
  go_ret
  exact ⟨ret_u32 (rotR_left x 25), rfl⟩
end Go.Proofs.YtjbpjoondmcnlabDoor
/-
  THE CONSTANTS OF sha, A LISTED TABLE: what the row's condition says of it; the start that meets it.
-/
namespace Go.Proofs.YtjbpjoondmcnlabDoor
open Go Go.ChangeShapes Go.WideShapes Go.ChangeAt Go.RowKit
theorem own : ownKnob Tryd.prog.godebug = none := by kernel_rfl
theorem laidOut : laidOutB Tryd.prog = true := by kernel_rfl
def laids : List (String × DataW Unit) := [("rhyne/sha.constants", Rows.laid_rhyne_sha_constants)]
theorem gK : Tryd.prog.globalNamed "rhyne/sha.constants" = some 0 := by kernel_rfl
theorem tyK : (Tryd.prog.globals[0]?).map (·.type) = some 154 := by kernel_rfl
theorem underK : Tryd.prog.underlying 154 = some (.array 64 114) := by kernel_rfl
theorem under32 : Tryd.prog.underlying 114 = some (.int .u32) := by kernel_rfl
theorem cells32 : Tryd.prog.cellsOf 114 = 1 := by kernel_rfl
theorem cellsK : Tryd.prog.cellsOf 154 = 64 := by kernel_rfl
def tabN : List Nat := [1116352408, 1899447441, 3049323471, 3921009573, 961987163, 1508970993, 2453635748, 2870763221, 3624381080, 310598401, 607225278, 1426881987, 1925078388, 2162078206, 2614888103, 3248222580, 3835390401, 4022224774, 264347078, 604807628, 770255983, 1249150122, 1555081692, 1996064986, 2554220882, 2821834349, 2952996808, 3210313671, 3336571891, 3584528711, 113926993, 338241895, 666307205, 773529912, 1294757372, 1396182291, 1695183700, 1986661051, 2177026350, 2456956037, 2730485921, 2820302411, 3259730800, 3345764771, 3516065817, 3600352804, 4094571909, 275423344, 430227734, 506948616, 659060556, 883997877, 958139571, 1322822218, 1537002063, 1747873779, 1955562222, 2024104815, 2227730452, 2361852424, 2428436474, 2756734187, 3204031479, 3329325298]
def tabK : List Int := tabN.map fun n : Nat => (n : Int)
theorem dataK : (Rows.laid_rhyne_sha_constants : DataW Unit) = Lib.tabData .u32 tabK := rfl
/-- A step's constant. -/
def kW (i : Nat) : BitVec 32 := BitVec.ofNat 32 (tabN.getD i 0)
theorem tabN_lt : ∀ i, i < 64 → tabN.getD i 0 < 4294967296 := by decide
theorem kW_n (i : Nat) (h : i < 64) : n32 (kW i) = tabK.getD i 0 := by
  have h1 := tabN_lt i h
  have e : tabK.getD i 0 = ((tabN.getD i 0 : Nat) : Int) := by
    unfold tabK
    simp only [List.getD_eq_getElem?_getD, List.getElem?_map]
    cases tabN[i]? <;> rfl
  rw [e]
  have q : (kW i).toNat = tabN.getD i 0 := by
    unfold kW
    rw [BitVec.toNat_ofNat]
    exact Nat.mod_eq_of_lt h1
  rw [← q]
  unfold n32
  rfl
/-- The door's own heap meets the condition. -/
theorem door_met (os : Os) (args : Array Value) : laidMetH Tryd.prog laids ((World.doorLaid Tryd.prog 14 os).forCall (fun _ _ => 0) ⟨#[], args, []⟩).memory :=
  laidMetH_of_parts3 (fuel := 8) (laidMet_of_run' 8 (by kernel_rfl) (by kernel_rfl)) (by kernel_rfl) (by kernel_rfl)
/-- The table's cells. -/
structure TabK (w : World) : Prop where
  cell : ∀ i, i < 64 → w.cell? ⟨0, i, none⟩ = some (.int .u32 (n32 (kW i)))
theorem TabK.lt {w : World} (h : TabK w) : 0 < w.heap.size := World.block_lt_of_cell? w _ (h.cell 0 (by omega))
theorem TabK.later {w w1 : World} (h : TabK w) (hb : Below w.heap.size w w1) : TabK w1 :=
  ⟨fun i hi => by rw [hb.cell (p := ⟨0, i, none⟩) h.lt]; exact h.cell i hi⟩
theorem tabK_of_laid {W : World} (h : laidMetH Tryd.prog laids W) : TabK W := by
  rw [MakeChecks.laidMetH_plain _ _ _ (by kernel_rfl)] at h
  obtain ⟨ps, ⟨g1, t1, cs1, f1, p1, q1, hg1, ht1, hv1, hd1, _, _⟩, _, _⟩ := h
  obtain rfl := Option.some.inj (gK.symm.trans hg1)
  obtain rfl := Option.some.inj (tyK.symm.trans ht1)
  rw [dataK] at hd1
  have hc := Lib.cells_of_tab underK under32 cells32 cellsK hd1
  refine ⟨fun i hi => ?_⟩
  have h1 := World.var?_cell hg1 hv1 i
  rw [h1, ← Array.getElem?_toList, hc, kW_n i hi]
  have hl : i < tabK.length := by rw [show tabK.length = 64 from rfl]; exact hi
  simp [hl]
end Go.Proofs.YtjbpjoondmcnlabDoor
