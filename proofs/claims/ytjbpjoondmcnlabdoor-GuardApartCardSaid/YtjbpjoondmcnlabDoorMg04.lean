/-
  TEXTS PUT TOGETHER: CallRegion, ShaE, Str, Append, Bytes.
-/
import Derived.Test.YtjbpjoondmcnlabDoorMg01
import Derived.RegionTactic
import Derived.Test.YtjbpjoondmcnlabDoorMg03
import Derived.Deep.MidRow
import Derived.WalkKit
import Derived.Below
import Derived.Laws.Rows
import Derived.Laws.Tables
import Derived.Deep.WholeRow
set_option maxRecDepth 100000
/-
  A REGION THAT DRAWS ITS ORDER AND HOLDS ONE CALL THAT ALL ELSE STANDS AHEAD OF OR BEHIND: a head of reads, the call, and behind it reads again, in whatever order ('x, e := f(a[:k])').
-/
namespace Go.Proofs.YtjbpjoondmcnlabDoor
open Go Go.RowKit
section
variable {P : Program} {ops : Array Oper} {md : Region.Mode} {C : World → Prop}
/-- One operation of a quiet walk, by its run. -/
theorem wpQuiet_run {Q : Act → Prop} {a : Act} {o : Oper} {rest : List Oper} (v : Value) (hw : Region.wanted o (yielded ops a.tmps) = true) (hr : ∀ w, C w → (execOp a.eval o).run P w = .ok (.value v) w)
    (h : wpQuiet P ops C Q rest (a.put o.dst v)) : wpQuiet P ops C Q (o :: rest) a :=
  wpQuiet_step fun K hK => by
    rw [if_pos hw]
    exact ⟨v, fun w hC => by unfold Oper.quietAt; rw [hr w hC]; exact ⟨rfl, rfl⟩, hK _ h⟩
/-- Each operation behind n waits for n, or for one between. -/
def Region.hangB (md : Region.Mode) (ops : Array Oper) (n : Nat) : Bool :=
  (List.range ops.size).all fun t => decide (t ≤ n) || (List.range t).any fun j => decide (n ≤ j) && Region.waitsFor md ops t j
/-- While an operation of the head has not come up, none from n on is ready. -/
theorem hang_waits {n : Nat} {listed : Array Bool} (hs : Region.sinkB md ops n = true) (hc : Region.hangB md ops n = true) (hn : n < ops.size) (inv : HeadInv md ops n listed) :
    ∀ (d i : Nat), n - i = d → i < n → listed.getD i true = false → ∀ t, n ≤ t → t ∉ Region.ready md ops listed := by
  intro d
  induction d using Nat.strongRecOn with
  | _ d ih =>
    intro i hd hi hun t ht hr
    obtain ⟨_, ot, hot, hall⟩ := mem_ready.1 hr
    have htlt : t < ops.size := (Array.getElem?_eq_some_iff.1 hot).1
    by_cases htn : t = n
    · subst htn
      have h1 := List.all_eq_true.1 hs i (List.mem_range.2 hi)
      obtain ⟨j, hj, hj2⟩ := List.any_eq_true.1 h1
      simp only [Bool.and_eq_true, decide_eq_true_eq] at hj2
      obtain ⟨oj, hoj, e, he, hb, hon⟩ := Region.waitsFor_spec hj2.2
      have hjle : j ≤ t := by have := List.mem_range.1 hj; omega
      by_cases hjt : j = t
      · subst hjt
        have : oj = ot := Option.some.inj (hoj.symm.trans hot)
        subst this
        have h2 := hall e he hb
        rw [hon, getD_both hun] at h2
        cases h2
      · cases hl : listed.getD j false with
        | true =>
          have h2 := inv.closed j oj hoj hl e he hb
          rw [hon, getD_both hun] at h2
          cases h2
        | false =>
          have hjs : j < listed.size := by rw [inv.size]; omega
          exact ih (t - j) (by omega) j rfl (by omega) (getD_in hjs hl) t (Nat.le_refl _) hr
    · have h1 := List.all_eq_true.1 hc t (List.mem_range.2 htlt)
      simp only [Bool.or_eq_true, decide_eq_true_eq] at h1
      rcases h1 with h1 | h1
      · omega
      · obtain ⟨j, hj, hj2⟩ := List.any_eq_true.1 h1
        simp only [Bool.and_eq_true, decide_eq_true_eq] at hj2
        obtain ⟨o', ho', e, he, hb, hon⟩ := Region.waitsFor_spec hj2.2
        have : o' = ot := Option.some.inj (ho'.symm.trans hot)
        subst this
        have h2 := hall e he hb
        have hjt : j < t := List.mem_range.1 hj
        rw [hon, getD_both (inv.tail j hj2.1 (by omega))] at h2
        cases h2
theorem hang_below {n i j : Nat} {listed : Array Bool} (hs : Region.sinkB md ops n = true) (hc : Region.hangB md ops n = true) (hn : n < ops.size) (hin : i < n) (inv : HeadInv md ops n listed)
    (hun : listed.getD i true = false) (hj : j ∈ Region.ready md ops listed) : j < n := by
  rcases Nat.lt_or_ge j n with h | h
  · exact h
  · exact absurd hj (hang_waits hs hc hn inv _ i rfl hin hun j h)
theorem hang_first {n i : Nat} {oi : Oper} {v : Value} {L : Array Bool → Act → Prop} (hi : ops[i]? = some oi) (hsel : ∀ (j : Nat) (o : Oper) cs b, ops[j]? = some o → o.op ≠ .select cs b)
    (hs : Region.sinkB md ops n = true) (hc : Region.hangB md ops n = true) (hn : n < ops.size) (hin : i < n) (hdone : ∀ listed a, L listed a → ∀ j ∈ Region.ready md ops listed, n ≤ j) :
    ∀ (f : Nat) (listed : Array Bool) (a : Act), HeadInv md ops n listed →
      (∀ j oj, ops[j]? = some oj → j ≠ i → listed.getD j true = false → (∀ e ∈ oj.after, Region.binds md e = true → e.on ≠ i) → oi.apart ops oj = true) →
      i ∈ Region.ready md ops listed → YieldsIn P ops C oi v a →
      headQ P md ops C n L f (listed.setIfInBounds i true) (a.put oi.dst v) → headQ P md ops C n L (f + 1) listed a := by
  intro f
  induction f with
  | zero =>
    intro listed a inv _ hr hy H
    refine ⟨fun h => (by rw [h] at hr; cases hr), fun j hj => ?_⟩
    have hjn := hang_below hs hc hn hin inv (mem_ready.1 hr).1 hj
    refine ⟨hjn, ?_⟩
    by_cases hji : j = i
    · subst hji; exact hy.qOp hi H
    · have := hdone _ _ H j (ready_mono hj hji)
      omega
  | succ f ih =>
    intro listed a inv hfree hr hy H
    have hun := (mem_ready.1 hr).1
    refine ⟨fun h => (by rw [h] at hr; cases hr), fun j hj => ?_⟩
    have hjn := hang_below hs hc hn hin inv hun hj
    refine ⟨hjn, ?_⟩
    by_cases hji : j = i
    · subst hji; exact hy.qOp hi H
    obtain ⟨hjun, oj, hoj, hall⟩ := mem_ready.1 hj
    have hnot : ∀ e ∈ oj.after, Region.binds md e = true → e.on ≠ i := fun e he hb heq => by
      have h1 := hall e he hb
      rw [heq, getD_both hun] at h1
      cases h1
    have h2 := qOp_put hoj (hfree j oj hoj hji hjun hnot) (fun cs b => hsel i oi cs b hi) (fun cs b => hsel j oj cs b hoj) hy (H.2 j (ready_mono hj hji)).2
    refine qOp_mono (fun a' h3 => ih (listed.setIfInBounds j true) a' (inv.set hj hjn) (fun k ok hk hki hkun hno => ?_) (ready_mono hr (Ne.symm hji)) h3.1 ?_) h2
    · refine hfree k ok hk hki ?_ hno
      by_cases hjk : j = k
      · subst hjk; exact hjun
      · rw [getD_set_ne true hjk] at hkun; exact hkun
    · rw [Array.setIfInBounds_comm _ _ hji]
      exact h3.2
/-- The head in the text's order; at its end n alone is ready; behind n the rest goes in the text's order, too. -/
def Region.callHead (md : Region.Mode) (ops : Array Oper) (g n : Nat) : Nat → Nat → Array Bool → Bool
  | 0, _, listed => decide (Region.ready md ops listed = [n]) && Region.lexFrom md ops g (n + 1) (listed.setIfInBounds n true)
  | f + 1, k, listed => (Region.ready md ops listed).contains k && Region.free md ops listed k && Region.callHead md ops g n f (k + 1) (listed.setIfInBounds k true)
def Region.callB (md : Region.Mode) (ops : Array Oper) (n : Nat) : Bool :=
  Region.noSelect ops && decide (n < ops.size) && Region.sinkB md ops n && Region.hangB md ops n && Region.callHead md ops (ops.size - (n + 1)) n n 0 (Array.replicate ops.size false)
theorem callHead_lex {n g : Nat} {Lq : Act → Prop} (hsel : Region.noSelect ops = true) (hs : Region.sinkB md ops n = true) (hc : Region.hangB md ops n = true) (hn : n < ops.size) :
    ∀ (l : List Oper) (k : Nat) (listed : Array Bool) (a : Act), (∀ j, j < l.length → l[j]? = ops[k + j]?) → k + l.length = n → HeadInv md ops n listed →
    Region.callHead md ops g n l.length k listed = true → wpQuiet P ops C Lq l a →
    headQ P md ops C n (fun listed' a' => (Region.ready md ops listed' = [n] ∧ Region.lexFrom md ops g (n + 1) (listed'.setIfInBounds n true) = true) ∧ Lq a') l.length listed a := by
  intro l
  induction l with
  | nil =>
    intro k listed a _ hk _ hB h
    simp only [List.length_nil, Region.callHead, Bool.and_eq_true, decide_eq_true_eq] at hB
    exact ⟨hB, h⟩
  | cons o l ih =>
    intro k listed a hl hk inv hB h
    have h0 : ops[k]? = some o := by simpa using (hl 0 (by simp)).symm
    simp only [List.length_cons, Region.callHead, Bool.and_eq_true] at hB
    obtain ⟨⟨hr, hf⟩, hB'⟩ := hB
    have hkn : k < n := by simp only [List.length_cons] at hk; omega
    have hr' : k ∈ Region.ready md ops listed := by simpa using hr
    have hst : qOp P ops C k (wpQuiet P ops C Lq l) a := by unfold qOp; simp only [h0]; exact h
    obtain ⟨v, hy, hK⟩ := yieldsIn_of_qOp h0 hst
    refine hang_first h0 (Region.noSelect_spec hsel) hs hc hn hkn (fun listed' a' hL j hj => ?_) l.length listed a inv (Region.free_spec h0 hf) hr' hy ?_
    · rw [hL.1.1] at hj
      have : j = n := by simpa using hj
      omega
    exact ih (k + 1) _ _ (fun j hj => by have := hl (j + 1) (by simp; omega); simpa [Nat.add_assoc, Nat.add_comm 1 j] using this) (by simp only [List.length_cons] at hk; omega) (inv.set hr' hkn) hB' hK
/-- THE LAW. -/
theorem region_call {id : Nat} {Q : Exit → Act → World → Prop} {a : Act} {w : World} {l : List Oper} {o : Oper} (n : Nat) (C : World → Prop) (hm : P.follows .mixedOrders = true) (hB : Region.callB .any l.toArray n = true) (hC : C w.drew)
    (ho : l[n]? = some o) (hg : o.guard = none)
    (h : wpQuiet P l.toArray C (fun a' => ∀ w', C w' → ∀ K : Act → World → Prop, (∀ a2 w2, wpQuiet P l.toArray (fun w3 => w3 = w2) (fun a3 => Q .normal a3 w2) (l.drop (n + 1)) a2 → K a2 w2) → o.wp P a' w' K Q) (l.take n) a) :
    (Code.region id l.toArray true).wp P Q a w := by
  simp only [Region.callB, Bool.and_eq_true, decide_eq_true_eq] at hB
  obtain ⟨⟨⟨⟨hsel, hn⟩, hs⟩, hc⟩, hlex⟩ := hB
  have hn' : n < l.length := by simpa using hn
  have htl : (l.take n).length = n := by simp; omega
  have hdl : (l.drop (n + 1)).length = l.toArray.size - (n + 1) := by simp
  have inv0 : HeadInv .any l.toArray n (Array.replicate l.toArray.size false) :=
    ⟨by simp, fun j oj _ hl => (by rw [getD_replicate_false] at hl; cases hl), fun t _ ht => getD_in (by simpa using ht) (getD_replicate_false _ _)⟩
  have H := callHead_lex (C := C) (md := .any) (g := l.toArray.size - (n + 1)) hsel hs hc hn (l.take n) 0 _ a (fun j hj => by
    have hj' : j < n := by rw [htl] at hj; exact hj
    simp [hj']) (by simpa using htl) inv0 (by rw [htl]; exact hlex) h
  refine wp_region_any hm ?_
  have := wpAny_of_headQ (Q' := Q) (g := (l.toArray.size - (n + 1)) + 1) (fun listed a' w' hw' hL => by
    obtain ⟨⟨h1, h2⟩, h3⟩ := hL
    refine ⟨fun h0 => (by rw [h1] at h0; cases h0), fun i hi => ?_⟩
    rw [h1] at hi
    have hin : i = n := by simpa using hi
    subst hin
    refine wpOp_step (o := o) (by simpa using ho) (fun K hK => ?_)
    have hw : Region.wanted o (yielded l.toArray a'.tmps) = true := by simp [Region.wanted, hg]
    rw [if_pos hw]
    refine h3 w' hw' K (fun a2 w2 hq => hK a2 w2 ?_)
    rw [← hdl] at h2 ⊢
    exact wpAny_of_quiet (C := fun w3 => w3 = w2) (Q := fun a3 => Q .normal a3 w2) (fun a3 w3 e hq => by subst e; exact hq) _ _ _ _ rfl
      (wpAnyQ_lex hsel (l.drop (i + 1)) (i + 1) _ _ (fun j => by simp [List.getElem?_drop]) h2 hq)) _ _ _ _ hC H
  rw [htl, show n + ((l.toArray.size - (n + 1)) + 1) = l.toArray.size by simp; omega] at this
  exact this
end
end Go.Proofs.YtjbpjoondmcnlabDoor
/-
  sha: a hash as a row of cells, and what changes it.
-/
namespace Go.Proofs.YtjbpjoondmcnlabDoor
open Go Go.RowKit Go.BigFrame
set_option linter.unusedSimpArgs false
set_option linter.unusedVariables false
/-- All but block b is as it was. -/
structure Chg (b : Nat) (w w' : World) : Prop where
  os : w'.os = w.os
  tape : w'.tape = w.tape
  output : w'.output = w.output
  size : w.heap.size ≤ w'.heap.size
  block : ∀ k, k < w.heap.size → k ≠ b → w'.heap[k]? = w.heap[k]?
theorem Chg.refl (b : Nat) (w : World) : Chg b w w := ⟨rfl, rfl, rfl, Nat.le_refl _, fun _ _ _ => rfl⟩
theorem Chg.trans {b : Nat} {w w1 w2 : World} (h : Chg b w w1) (k : Chg b w1 w2) : Chg b w w2 :=
  ⟨k.os.trans h.os, k.tape.trans h.tape, k.output.trans h.output, Nat.le_trans h.size k.size, fun i hi hb => (k.block i (Nat.lt_of_lt_of_le hi h.size) hb).trans (h.block i hi hb)⟩
theorem Chg.of_below {b : Nat} {w w' : World} (h : Below w.heap.size w w') : Chg b w w' := ⟨h.os, h.tape, h.output, h.size, fun k hk _ => h.block k hk⟩
theorem Chg.drew {b : Nat} {w w' : World} (h : Chg b w w') : Chg b w w'.drew := ⟨h.os, h.tape, h.output, h.size, h.block⟩
theorem Chg.below {b : Nat} {w w' : World} (h : Chg b w w') {B : Nat} (hB : B ≤ b) (hs : B ≤ w.heap.size) : Below B w w' :=
  ⟨h.os, h.tape, h.output, h.size, fun k hk => h.block k (by omega) (by omega)⟩
theorem Chg.cell {b : Nat} {w w' : World} (h : Chg b w w') {p : Addr} (hp : p.block < w.heap.size) (hb : p.block ≠ b) : w'.cell? p = w.cell? p := World.cell?_of_block (w := w) (h.block p.block hp hb)
theorem Chg.row {b k : Nat} {w w' : World} (h : Chg b w w') (hb : k ≠ b) {o : Obj} (e : w.heap[k]? = some o) : w'.heap[k]? = some o := by rw [h.block k (lt_row e) hb]; exact e
/-- A new block of the call's own: b is none of those that were there. -/
theorem Chg.all {b : Nat} {w w' : World} (h : Chg b w w') (hb : w.heap.size ≤ b) : Below w.heap.size w w' := h.below hb (Nat.le_refl _)
theorem RowSet.chg {w w' : World} {b : Nat} {T : TypeId} {c : Array Value} (h : RowSet w b T c w') : Chg b w w' := by
  have h0 := h.below 0 (Nat.zero_le _)
  exact ⟨h0.os, h0.tape, h0.output, h0.size, fun k _ hb => h.other k hb⟩
theorem TabK.chg {b : Nat} {w w' : World} (T : TabK w) (h : Chg b w w') (hb : 0 < b) : TabK w' :=
  ⟨fun i hi => by rw [h.cell (p := ⟨0, i, none⟩) T.lt (by show (0 : Nat) ≠ b; omega)]; exact T.cell i hi⟩
/-- A hash's cells: the state, the block, the count. -/
def cellH (v : W8) (g : Nat → BitVec 8) (n : Nat) (i : Nat) : Value := if i < 8 then .int .u32 (n32 (v.get i)) else if i < 72 then .int .u8 (n8 (g (i - 8))) else .int .u64 (n : Int)
def hashA (v : W8) (g : Nat → BitVec 8) (n : Nat) : Array Value := ((List.range 73).map (cellH v g n)).toArray
theorem hashA_size (v : W8) (g : Nat → BitVec 8) (n : Nat) : (hashA v g n).size = 73 := by simp [hashA]
theorem hashA_get (v : W8) (g : Nat → BitVec 8) (n : Nat) {i : Nat} (h : i < 73) : (hashA v g n)[i]? = some (cellH v g n i) := by simp [hashA, h]
theorem hashA_one (v : W8) (g : Nat → BitVec 8) (n : Nat) : (hashA v g n).all (·.oneCell') = true := by
  rw [Array.all_eq_true_iff_forall_mem]
  intro x hx
  simp only [hashA, List.mem_toArray, List.mem_map] at hx
  obtain ⟨i, _, rfl⟩ := hx
  unfold cellH
  by_cases h1 : i < 8
  · rw [if_pos h1]; rfl
  · rw [if_neg h1]
    by_cases h2 : i < 72
    · rw [if_pos h2]; rfl
    · rw [if_neg h2]; rfl
theorem hashA_ext {C : Array Value} {v : W8} {g : Nat → BitVec 8} {n : Nat} (hs : C.size = 73) (h : ∀ i, i < 73 → C[i]? = some (cellH v g n i)) : C = hashA v g n := by
  apply Array.ext_getElem?
  intro i
  by_cases hi : i < 73
  · rw [h i hi, hashA_get _ _ _ hi]
  · rw [Array.getElem?_eq_none (by omega), Array.getElem?_eq_none (by rw [hashA_size]; omega)]
/-- A hash in block b. -/
def HashRow (w : World) (b : Nat) (v : W8) (g : Nat → BitVec 8) (n : Nat) : Prop := w.heap[b]? = some (.cells (hashA v g n) 145 (0, 0))
theorem HashRow.at {w : World} {b : Nat} {v : W8} {g : Nat → BitVec 8} {n : Nat} (h : HashRow w b v g n) {i : Nat} (hi : i < 73) : w.cell? ⟨b, i, none⟩ = some (cellH v g n i) := by
  rw [cell_of_row _ _ _ _ _ _ h]; exact hashA_get _ _ _ hi
theorem HashRow.free {w : World} {b : Nat} {v : W8} {g : Nat → BitVec 8} {n : Nat} (h : HashRow w b v g n) (i : Nat) : w.frozen? ⟨b, i, none⟩ = false := frozen_of_row _ _ _ _ _ h
theorem HashRow.len {w : World} {b : Nat} {v : W8} {g : Nat → BitVec 8} {n : Nat} (h : HashRow w b v g n) : w.cell? ⟨b, 72, none⟩ = some (.int .u64 (n : Int)) := h.at (by omega)
theorem HashRow.later {w w' : World} {b : Nat} {v : W8} {g : Nat → BitVec 8} {n : Nat} (h : HashRow w b v g n) (hb : Below w.heap.size w w') : HashRow w' b v g n := by
  unfold HashRow at *; rw [hb.block b (lt_row h)]; exact h
theorem HashRow.there {w : World} {b : Nat} {v : W8} {g : Nat → BitVec 8} {n : Nat} (h : HashRow w b v g n) {o k : Nat} (hk : o + k ≤ 73) : w.there b o k := fun j hj => ⟨by rw [h.at (by omega)]; rfl, h.free _⟩
theorem HashRow.words {w : World} {b : Nat} {v : W8} {g : Nat → BitVec 8} {n : Nat} (h : HashRow w b v g n) : w.rangeAt b 0 (wordsA v.get 8).toList := fun j x hx => by
  rw [Array.getElem?_toList] at hx
  have hj : j < 8 := by have := (Array.getElem?_eq_some_iff.1 hx).1; rwa [wordsA_size] at this
  rw [wordsA_get _ hj] at hx
  rw [Nat.zero_add, h.at (by omega), ← hx]
  unfold cellH
  rw [if_pos hj]
theorem HashRow.bytes {w : World} {b : Nat} {v : W8} {g : Nat → BitVec 8} {n : Nat} (h : HashRow w b v g n) : w.rangeAt b 8 (bytesA g 64).toList := fun j x hx => by
  rw [Array.getElem?_toList] at hx
  have hj : j < 64 := by have := (Array.getElem?_eq_some_iff.1 hx).1; rwa [bytesA_size] at this
  rw [bytesA_get _ hj] at hx
  rw [h.at (by omega), ← hx]
  unfold cellH
  rw [if_neg (by omega), if_pos (by omega), Nat.add_sub_cancel_left]
theorem load_state {w : World} {b : Nat} {v : W8} {g : Nat → BitVec 8} {n : Nat} (h : HashRow w b v g n) : (Instr.loadAt 143 (.pointer (some ⟨b, 0, none⟩))).run Tryd.prog w = .ok (.agg (wordsA v.get 8)) w := by
  have := run_loadAt_mid (P := Tryd.prog) w b 0 143 (wordsA v.get 8).toList _ h.words Tryd.underlying143 rfl (by rw [Array.length_toList, wordsA_size]; kernel_rfl)
  rwa [Array.toArray_toList] at this
theorem load_block {w : World} {b : Nat} {v : W8} {g : Nat → BitVec 8} {n : Nat} (h : HashRow w b v g n) : (Instr.loadAt 132 (.pointer (some ⟨b, 8, none⟩))).run Tryd.prog w = .ok (.agg (bytesA g 64)) w := by
  have := run_loadAt_mid (P := Tryd.prog) w b 8 132 (bytesA g 64).toList _ h.bytes Tryd.underlying132 rfl (by rw [Array.length_toList, bytesA_size]; kernel_rfl)
  rwa [Array.toArray_toList] at this
/-- What a change of the hash leaves. -/
structure HashSet (w : World) (b : Nat) (v : W8) (g : Nat → BitVec 8) (n : Nat) (w' : World) : Prop where
  row : HashRow w' b v g n
  chg : Chg b w w'
  size : w'.heap.size = w.heap.size
theorem setCells_chg (w : World) (b o : Nat) (vs : List Value) : Chg b w (w.setCells b o vs) := by
  have h0 : Below 0 w (w.setCells b o vs) := setCells_below 0 b (Nat.zero_le _) vs o w w (Below.refl _ _)
  exact ⟨h0.os, h0.tape, h0.output, h0.size, fun k _ hk => setCells_other b k hk vs o w⟩
theorem HashRow.setCells {w : World} {b : Nat} {v v' : W8} {g g' : Nat → BitVec 8} {n n' : Nat} (h : HashRow w b v g n) (o : Nat) (vs : List Value)
    (e : ∀ i, i < 73 → (if o ≤ i ∧ i < o + vs.length then vs[i - o]? else some (cellH v g n i)) = some (cellH v' g' n' i)) : HashSet w b v' g' n' (w.setCells b o vs) := by
  refine ⟨?_, setCells_chg w b o vs, setCells_size b vs o w⟩
  obtain ⟨C, h1, h2, h3⟩ := setCells_row b _ vs o w _ h
  rw [hashA_size] at h2
  unfold HashRow
  rw [h1, hashA_ext h2 (fun i hi => by
    rw [h3, ← e i hi]
    by_cases c : o ≤ i ∧ i < o + vs.length
    · rw [if_pos c, if_pos ⟨c.1, c.2, by rw [hashA_size]; exact hi⟩]
    · rw [if_neg c, if_neg (fun c2 => c ⟨c2.1, c2.2.1⟩), hashA_get _ _ _ hi])]
theorem HashRow.setState {w : World} {b : Nat} {v : W8} {g : Nat → BitVec 8} {n : Nat} (h : HashRow w b v g n) (v' : W8) : HashSet w b v' g n (w.setCells b 0 (wordsA v'.get 8).toList) := by
  refine h.setCells 0 _ (fun i hi => ?_)
  rw [Array.length_toList, wordsA_size]
  by_cases c : i < 8
  · rw [if_pos ⟨Nat.zero_le _, by omega⟩, Array.getElem?_toList, Nat.sub_zero, wordsA_get _ c]
    unfold cellH
    rw [if_pos c]
  · rw [if_neg (by omega)]
    unfold cellH
    rw [if_neg c, if_neg c]
/-- The first k values, as cells. -/
def cells8 (p : Nat → BitVec 8) (k : Nat) : List Value := (List.range k).map fun i => .int .u8 (n8 (p i))
theorem cells8_len (p : Nat → BitVec 8) (k : Nat) : (cells8 p k).length = k := by simp [cells8]
theorem cells8_get (p : Nat → BitVec 8) {k i : Nat} (h : i < k) : (cells8 p k)[i]? = some (.int .u8 (n8 (p i))) := by simp [cells8, h]
theorem cells8_one (p : Nat → BitVec 8) (k : Nat) : ∀ v ∈ cells8 p k, v.oneCell' = true := by
  intro v hv
  simp only [cells8, List.mem_map] at hv
  obtain ⟨i, _, rfl⟩ := hv
  rfl
/-- Bytes over others from place o on. -/
def over8 (g : Nat → BitVec 8) (o k : Nat) (p : Nat → BitVec 8) (i : Nat) : BitVec 8 := if o ≤ i ∧ i < o + k then p (i - o) else g i
theorem HashRow.setBytes {w : World} {b : Nat} {v : W8} {g : Nat → BitVec 8} {n : Nat} (h : HashRow w b v g n) (o k : Nat) (p : Nat → BitVec 8) (hk : o + k ≤ 64) : HashSet w b v (over8 g o k p) n (w.setCells b (8 + o) (cells8 p k)) := by
  refine h.setCells _ _ (fun i hi => ?_)
  rw [cells8_len]
  unfold cellH over8
  by_cases c : 8 + o ≤ i ∧ i < 8 + o + k
  · rw [if_pos c, cells8_get _ (by omega), if_neg (by omega), if_pos (by omega), if_pos (by omega), show i - 8 - o = i - (8 + o) by omega]
  · rw [if_neg c]
    by_cases c1 : i < 8
    · rw [if_pos c1, if_pos c1]
    · rw [if_neg c1, if_neg c1]
      by_cases c2 : i < 72
      · rw [if_pos c2, if_pos c2, if_neg (by omega)]
      · rw [if_neg c2, if_neg c2]
theorem HashRow.setLen {w : World} {b : Nat} {v : W8} {g : Nat → BitVec 8} {n : Nat} (h : HashRow w b v g n) (m : Nat) : HashSet w b v g m (w.setCell ⟨b, 72, none⟩ (.int .u64 (m : Int))) := by
  refine h.setCells 72 [.int .u64 (m : Int)] (fun i hi => ?_)
  unfold cellH
  by_cases c : i = 72
  · subst c; rfl
  · rw [if_neg (by simp; omega), if_pos (by omega : i < 72)]
    rw [if_pos (by omega : i < 72)]
/-- 'copy' into the block, from place o of it on. -/
theorem copy_block {w : World} {b : Nat} {v : W8} {g : Nat → BitVec 8} {n : Nat} (h : HashRow w b v g n) (o dLen dCap : Nat) (a : Option Addr) (sLen sCap k : Nat) (p : Nat → BitVec 8) (hk : k = Nat.min sLen dLen) (hok : o + k ≤ 64)
    (hx : BytesIn w a sLen p) : ∃ w', (Builtin.copy_ #[31, 31] 3 #[.slice (some ⟨b, 8 + o, none⟩) dLen dCap, .slice a sLen sCap]).run Tryd.prog w = .ok (goInt k) w' ∧ HashSet w b v (over8 g o k p) n w' := by
  have hu : Tryd.prog.underlying 31 = some (.slice 5) := by kernel_rfl
  have hs : (Tryd.prog.info? 5).map (·.size) = some 1 := by kernel_rfl
  refine ⟨_, ?_, h.setBytes o k p hok⟩
  by_cases k0 : k = 0
  · subst k0
    have := run_copy_none (P := Tryd.prog) w 31 31 3 5 (some ⟨b, 8 + o, none⟩) a dLen dCap sLen sCap hu hs hk.symm
    rw [this]; rfl
  · rcases hx.2 with h0 | ⟨bb, bo, rfl, hbb, hc⟩
    · exact absurd (by rw [hk, h0]; exact Nat.zero_min _) k0
    · have hks : k ≤ sLen := by rw [hk]; exact Nat.min_le_left _ _
      have := run_copy_cells (P := Tryd.prog) w 31 31 3 5 b (8 + o) dLen dCap ⟨bb, bo, none⟩ sLen sCap (cells8 p k) hu hs (by rw [cells8_len]; exact hk) (fun j x hj => by
        have hj' : j < k := by have := (List.getElem?_eq_some_iff.1 hj).1; rwa [cells8_len] at this
        rw [cells8_get _ hj'] at hj
        rw [Addr.add_mid, hc j (by omega)]; exact hj) (fun j hj => by rw [cells8_len] at hj; exact ((h.there (o := 8 + o) (k := k) (by omega)) j hj).1) (fun j hj => h.free _) (cells8_one p k)
      rw [cells8_len] at this
      exact this
end Go.Proofs.YtjbpjoondmcnlabDoor
/-
  BYTES AS A STRING: 'string(b)', and when two such are one.
-/
namespace Go.Proofs.YtjbpjoondmcnlabDoor
open Go Go.RowKit
def strL (f : Nat → BitVec 8) (n : Nat) : List UInt8 := (List.range n).map fun i => UInt8.ofBitVec (f i)
def strOf (f : Nat → BitVec 8) (n : Nat) : ByteArray := ⟨(strL f n).toArray⟩
theorem strL_length (f : Nat → BitVec 8) (n : Nat) : (strL f n).length = n := by simp [strL]
theorem n8_u8 (x : BitVec 8) : n8 x = ((UInt8.ofBitVec x).toNat : Int) := by unfold n8; rfl
theorem conv_str (f : Nat → BitVec 8) (b o n c : Nat) (w : World) (hc : ∀ i, i < n → w.cell? ⟨b, o + i, none⟩ = some (.int .u8 (n8 (f i)))) :
    (convert 31 9 (.slice (some ⟨b, o, none⟩) n c)).run Tryd.prog w = .ok (.string (strOf f n)) w := by
  have h := run_convert_bytes_back (P := Tryd.prog) w 31 9 5 ⟨b, o, none⟩ c (strL f n) (by kernel_rfl) (by kernel_rfl) (by kernel_rfl) (fun j hj => by
    have hj' : j < n := by simpa [strL] using hj
    have e : ((⟨b, o, none⟩ : Addr).add j) = ⟨b, o + j, none⟩ := by unfold Addr.add; split <;> simp_all
    rw [e, hc j hj', n8_u8]
    simp [strL])
  rw [strL_length] at h
  exact h
theorem strL_eq (f g : Nat → BitVec 8) (n : Nat) : strL f n = strL g n ↔ ∀ i, i < n → f i = g i := by
  unfold strL
  rw [List.map_inj_left]
  constructor
  · intro h i hi
    have := h i (List.mem_range.2 hi)
    exact congrArg UInt8.toBitVec this
  · intro h i hi
    rw [h i (List.mem_range.1 hi)]
theorem strOf_eq (f g : Nat → BitVec 8) (n : Nat) : strOf f n = strOf g n ↔ ∀ i, i < n → f i = g i := by
  rw [← strL_eq]
  unfold strOf
  constructor
  · intro h
    have := congrArg (fun x : ByteArray => x.data.toList) h
    simpa using this
  · intro h; rw [h]
theorem strOf_beq (f g : Nat → BitVec 8) (n : Nat) : (strOf f n == strOf g n) = decide (∀ i, i < n → f i = g i) := by
  rw [beq_toListBytes, ByteArray.toList_eq, ByteArray.toList_eq]
  show (strL f n == strL g n) = _
  rw [Bool.eq_iff_iff, decide_eq_true_eq, beq_iff_eq, strL_eq]
theorem strOf_list_beq (f g : Nat → BitVec 8) (n : Nat) : ((strOf f n).toList == (strOf g n).toList) = decide (∀ i, i < n → f i = g i) := by
  rw [← beq_toListBytes, strOf_beq]
/-- Are the first n bytes the same? -/
def allEq (f g : Nat → BitVec 8) (n : Nat) : Bool := decide (∀ i, i < n → f i = g i)
theorem allEq_iff (f g : Nat → BitVec 8) (n : Nat) : allEq f g n = true ↔ ∀ i, i < n → f i = g i := by unfold allEq; rw [decide_eq_true_eq]
theorem strOf_allEq (f g : Nat → BitVec 8) (n : Nat) : (strOf f n == strOf g n) = allEq f g n := strOf_beq f g n
theorem strOf_list_allEq (f g : Nat → BitVec 8) (n : Nat) : ((strOf f n).toList == (strOf g n).toList) = allEq f g n := strOf_list_beq f g n
theorem strOf_size (f : Nat → BitVec 8) (n : Nat) : (strOf f n).size = n := by
  show (strL f n).toArray.size = n
  simp [strL]
end Go.Proofs.YtjbpjoondmcnlabDoor
/-
  APPEND ONTO A SLICE OF THE CALL's OWN, AND WHERE ITS ROW LIES BEHIND IT: in its old block, or in one that is new.
-/
namespace Go.Proofs.YtjbpjoondmcnlabDoor
open Go Go.RowKit
/-- Where the row of v lies behind an append in the world w. -/
def NewBlock (w w' : World) (v v' : Value) : Prop := (v'.ownBlock = v.ownBlock ∧ w.grownBy w' v.ownBlock) ∨ ((∃ k, v'.ownBlock = some k ∧ w.heap.size ≤ k) ∧ w.grownBy w' none)
theorem run_append_where {P : Program} (w : World) (base : Nat) (t ty e : TypeId) (i : TypeInfo) (z : Value) (size bytes : Nat) (ht : P.underlying t = some (.slice e)) (hi : P.info? e = some i) (hz : i.zero = some z)
    (hsize : i.size = size) (hby : i.bytes = bytes) (hzs : z.cells.size = size) (hsz : 0 < size)
    (v : Value) (n : Nat) (xs : List Value) (hown : w.ownsRow base e size v n xs)
    (a : Addr) (m c : Nat) (news : List Value) (hl : news.length = m * size) (hnews : ∀ j u, news[j]? = some u → w.cell? (a.add j) = some u) (h1 : ∀ u ∈ news, u.oneCell' = true)
    (h63 : n + m ≤ maxLen) (hbytes : (n + m) * bytes ≤ 140737488355328) (hbase : base ≤ w.heap.size) :
    ∃ v' w', (Builtin.append_ #[t, t] ty #[v, .slice (some a) m c]).run P w = .ok v' w' ∧ w'.ownsRow base e size v' (n + m) (xs ++ news) ∧ w.grownBy w' v.ownBlock ∧
      (v' = .slice none 0 0 ↔ v = .slice none 0 0 ∧ m = 0) ∧ NewBlock w w' v v' := by
  have hsmall : n + m ≤ 9223372036854775807 := by simp only [maxLen] at h63; omega
  obtain ⟨v', w', hr, h2, h3, h4⟩ := run_append_own (P := P) w base t ty e i z size bytes ht hi hz hsize hby hzs hsz v n xs hown a m c news hl hnews h1 h63 hbytes hbase
  refine ⟨v', w', hr, h2, h3, h4, ?_⟩
  rcases hown.2 with ⟨rfl, rfl⟩ | ⟨g, cap, cur, rfl, hbg, hg, hnc, hcm, hcs, htake⟩
  · have hx : xs = [] := List.eq_nil_of_length_eq_zero (by simpa using hown.1)
    subst hx
    by_cases hm : m = 0
    · subst hm
      left
      refine ⟨?_, h3⟩
      rw [h4.2 ⟨rfl, rfl⟩]
    · obtain ⟨v2, w2, hr2, k2, k3, k4⟩ := run_append_own (P := P) w w.heap.size t ty e i z size bytes ht hi hz hsize hby hzs hsz _ 0 [] (World.ownsRow_nil _ _ _ _) a m c news hl hnews h1 h63 hbytes (Nat.le_refl _)
      rw [hr] at hr2
      injection hr2 with e1 e2
      subst e1; subst e2
      right
      refine ⟨?_, k3⟩
      rcases k2.2 with ⟨e1, e2⟩ | ⟨g, cap, cur, rfl, hbg, _⟩
      · exact absurd (k4.1 e1).2 hm
      · exact ⟨g, rfl, hbg⟩
  · by_cases hroom : n + m ≤ cap
    · have hfit : n * i.size + news.length ≤ cur.size := by rw [hl, hcs, hsize, ← Nat.add_mul]; exact Nat.mul_le_mul_right _ hroom
      have hr2 := run_append_room (P := P) w t ty e i ht hi g n cap cur hg a m c news (by rw [hsize]; exact hl) hnews h1 hroom hfit
      rw [hr] at hr2
      injection hr2 with e1 e2
      left
      refine ⟨?_, h3⟩
      rw [e1]; rfl
    · have holds : ∀ j u, xs[j]? = some u → w.cell? ((⟨g, 0, none⟩ : Addr).add j) = some u := hown.cells (g := g) rfl
      have hr2 := run_append_grow (P := P) w t ty e i z ht hi hz ⟨g, 0, none⟩ n cap xs (by rw [hsize]; exact hown.1) holds a m c news (by rw [hsize]; exact hl) hnews (by omega) (by omega) (growslice_fits (by omega) (by rw [hby]; exact hbytes))
      rw [hr] at hr2
      injection hr2 with e1 e2
      right
      refine ⟨⟨w.heap.size, by rw [e1]; rfl, Nat.le_refl _⟩, ?_⟩
      rw [e2]
      exact ⟨rfl, rfl, rfl, by simp, fun k hk _ => Below.heap_alloc w.drew _ k hk⟩
theorem wpList_append_where {P : Program} (w : World) {ops : Array Oper} {rest : List Oper} {o : Oper} {a : Act} {Q : Exit → Act → World → Prop} (hgd : o.guard = none) (s x : Operand) (t : TypeId)
    (ho : o.op = .call { callee := .builtin .append, args := #[s, x], argTypes := #[t, t] })
    (base : Nat) (e : TypeId) (i : TypeInfo) (z : Value) (size bytes : Nat) (ht : P.underlying t = some (.slice e)) (hi : P.info? e = some i) (hz : i.zero = some z)
    (hsize : i.size = size) (hby : i.bytes = bytes) (hzs : z.cells.size = size) (hsz : 0 < size)
    (v : Value) (n : Nat) (xs : List Value) (hs : a.eval s = v) (hown : w.ownsRow base e size v n xs)
    (ad : Addr) (m c : Nat) (news : List Value) (hx : a.eval x = .slice (some ad) m c) (hl : news.length = m * size) (hnews : ∀ j u, news[j]? = some u → w.cell? (ad.add j) = some u) (h1 : ∀ u ∈ news, u.oneCell' = true)
    (h63 : n + m ≤ maxLen) (hbytes : (n + m) * bytes ≤ 140737488355328) (hbase : base ≤ w.heap.size)
    (h : ∀ v' w', w'.ownsRow base e size v' (n + m) (xs ++ news) → w.grownBy w' v.ownBlock → NewBlock w w' v v' → wpList P ops Q rest (a.put o.dst v') w') : wpList P ops Q (o :: rest) a w :=
  wpList_plain hgd fun _ hK => by
    obtain ⟨v', w', hr, h2, h3, _, h5⟩ := run_append_where (P := P) w base t o.type e i z size bytes ht hi hz hsize hby hzs hsz v n xs hown ad m c news hl hnews h1 h63 hbytes hbase
    unfold Oper.wp execOp
    simp only [ho, resolve, invoke, builtin, Sem.run_bind, Sem.run_pure, Result.andThen_ok, List.map_toArray, List.map_cons, List.map_nil, hs, hx, hr]
    exact hK _ _ (h v' w' h2 h3 h5)
end Go.Proofs.YtjbpjoondmcnlabDoor
/-
  ROWS OF BYTES: as arrays of cells, made, written, owned, appended to.
-/
namespace Go.Proofs.YtjbpjoondmcnlabDoor
open Go Go.RowKit
theorem lt_of_heap {w : World} {k : Nat} {o : Obj} (h : w.heap[k]? = some o) : k < w.heap.size := by
  rcases Nat.lt_or_ge k w.heap.size with h1 | h1
  · exact h1
  · rw [Array.getElem?_eq_none h1] at h; cases h
theorem n8_nat (x : BitVec 8) : n8 x = (x.toNat : Int) := by unfold n8; rfl
theorem n64_nat (x : BitVec 64) : n64 x = (x.toNat : Int) := by unfold n64; rfl
theorem ofInt_byte (k : Nat) : IntKind.u8.wrap (k : Int) = n8 (BitVec.ofNat 8 k) := by
  rw [n8_nat, BitVec.toNat_ofNat]
  simp [IntKind.wrap_u8]
def bytesArr (f : Nat → BitVec 8) (n : Nat) : Array Value := ((List.range n).map fun i => .int .u8 (n8 (f i))).toArray
theorem bytesArr_size (f : Nat → BitVec 8) (n : Nat) : (bytesArr f n).size = n := by simp [bytesArr]
theorem bytesArr_get (f : Nat → BitVec 8) (n i : Nat) (h : i < n) : (bytesArr f n)[i]? = some (.int .u8 (n8 (f i))) := by simp [bytesArr, h]
def updb (f : Nat → BitVec 8) (j : Nat) (x : BitVec 8) : Nat → BitVec 8 := fun i => if i = j then x else f i
theorem bytesArr_set (f : Nat → BitVec 8) (n j : Nat) (x : BitVec 8) : (bytesArr f n).setIfInBounds j (.int .u8 (n8 x)) = bytesArr (updb f j x) n := by
  apply Array.ext_getElem?
  intro i
  rw [Array.getElem?_setIfInBounds]
  by_cases hij : j = i
  · subst hij
    by_cases hi : j < n
    · simp [bytesArr, hi, updb]
    · simp [bytesArr, hi]
  · rw [if_neg hij]
    by_cases hi : i < n
    · have : ¬ i = j := fun h => hij h.symm
      simp [bytesArr, hi, updb, this]
    · simp [bytesArr, hi]
theorem bytesArr_congr (f g : Nat → BitVec 8) (n : Nat) (h : ∀ i, i < n → f i = g i) : bytesArr f n = bytesArr g n := by
  unfold bytesArr
  rw [List.map_congr_left (fun i hi => by rw [h i (List.mem_range.1 hi)])]
theorem zeros_bytes (n : Nat) : Array.replicate n (Value.int .u8 0) = bytesArr (fun _ => 0#8) n := by
  apply Array.ext_getElem?
  intro i
  by_cases hi : i < n
  · rw [bytesArr_get _ _ _ hi, n8_nat]
    simp [hi]
  · simp [bytesArr, hi]
theorem info_u8 : (Tryd.prog.info? 5).map (fun i => (i.zero, i.size, i.bytes)) = some (some (.int .u8 0), 1, 1) := by kernel_rfl
theorem under_bytes : Tryd.prog.underlying 31 = some (.slice 5) := by kernel_rfl
theorem info_u8' : ∃ i0, Tryd.prog.info? 5 = some i0 ∧ i0.zero = some (.int .u8 0) ∧ i0.size = 1 ∧ i0.bytes = 1 := by
  have h := info_u8
  cases hq : Tryd.prog.info? 5 with
  | none => simp [hq] at h
  | some i => exact ⟨i, rfl, by simpa [hq] using h⟩
theorem run_make_bytes (n : Nat) (hn : n ≤ 281474976710656) (w : World) :
    (Instr.makeSlice 31 (.int .i64 (n : Int)) (.int .i64 (n : Int))).run Tryd.prog w = .ok (.slice (some ⟨w.heap.size, 0, none⟩) n n) (w.alloc (.cells (bytesArr (fun _ => 0#8) n) 5)) := by
  obtain ⟨i, hq, hz, hs, hb⟩ := info_u8'
  have h := run_make (P := Tryd.prog) w 31 5 i _ (by kernel_rfl) hq hz .i64 .i64 (n : Int) (n : Int) (by omega) (by omega) (by rw [hb]; omega) (by omega)
  rw [h, hs]
  have e : madeCells (Value.int .u8 0).cells (((n : Nat) : Int).toNat * 1) = bytesArr (fun _ => 0#8) n := by
    unfold madeCells bytesArr
    apply Array.ext_getElem?
    intro j
    have z : n8 0#8 = 0 := by unfold n8; rfl
    by_cases hj : j < n
    · simp [hj, Value.cells, z, Nat.mod_one]
    · simp [hj]
  rw [e]
  simp
/-- The first k values. -/
def firsts (f : Nat → BitVec 8) (k : Nat) : List Value := (List.range k).map fun i => .int .u8 (n8 (f i))
theorem firsts_len (f : Nat → BitVec 8) (k : Nat) : (firsts f k).length = k := by simp [firsts]
theorem firsts_get (f : Nat → BitVec 8) (k i : Nat) (h : i < k) : (firsts f k)[i]? = some (.int .u8 (n8 (f i))) := by simp [firsts, h]
theorem firsts_snoc (f : Nat → BitVec 8) (k : Nat) : firsts f k ++ [.int .u8 (n8 (f k))] = firsts f (k + 1) := by
  unfold firsts
  rw [List.range_succ, List.map_append]
  rfl
theorem firsts_one (f : Nat → BitVec 8) (n : Nat) : ∀ u ∈ firsts f n, u.oneCell' = true := by
  intro u hu
  obtain ⟨j, _, rfl⟩ := List.mem_map.1 hu
  rfl
/-- Two rows, one behind the other. -/
def joinb (f : Nat → BitVec 8) (n : Nat) (g : Nat → BitVec 8) : Nat → BitVec 8 := fun i => if i < n then f i else g (i - n)
theorem firsts_append (f g : Nat → BitVec 8) (n m : Nat) : firsts f n ++ firsts g m = firsts (joinb f n g) (n + m) := by
  apply List.ext_getElem?
  intro i
  by_cases h : i < n
  · rw [List.getElem?_append_left (by rw [firsts_len]; exact h), firsts_get _ _ _ h, firsts_get _ _ _ (by omega)]
    simp [joinb, h]
  · rw [List.getElem?_append_right (by rw [firsts_len]; omega), firsts_len]
    by_cases h2 : i < n + m
    · rw [firsts_get _ _ _ (by omega), firsts_get _ _ _ h2]
      simp [joinb, h]
    · rw [List.getElem?_eq_none (by rw [firsts_len]; omega), List.getElem?_eq_none (by rw [firsts_len]; omega)]
theorem bytesArr_firsts (f : Nat → BitVec 8) (n : Nat) : (bytesArr f n).toList = firsts f n := by simp [bytesArr, firsts]
theorem firsts_congr {f g : Nat → BitVec 8} {n : Nat} (h : ∀ i, i < n → f i = g i) : firsts f n = firsts g n := by
  unfold firsts
  rw [List.map_congr_left (fun i hi => by rw [h i (List.mem_range.1 hi)])]
theorem own_slice {w : World} {B : Nat} {v : Value} {n : Nat} {f : Nat → BitVec 8} (hn : 0 < n) (h : w.ownsRow B 5 1 v n (firsts f n)) :
    ∃ g cap, v = .slice (some ⟨g, 0, none⟩) n cap ∧ n ≤ cap ∧ cap ≤ maxLen ∧ B ≤ g ∧ g < w.heap.size ∧ ∀ i, i < n → w.cell? ⟨g, i, none⟩ = some (.int .u8 (n8 (f i))) := by
  have h2 := h
  rcases h.2 with ⟨_, h0⟩ | ⟨g, cap, cur, rfl, hB, hg, hnc, hcm, _⟩
  · omega
  · refine ⟨g, cap, rfl, hnc, hcm, hB, lt_of_heap hg, fun i hi => ?_⟩
    have h1 := h2.cells (g := g) rfl i (.int .u8 (n8 (f i))) (firsts_get _ _ _ hi)
    have : ((⟨g, 0, none⟩ : Addr).add i) = ⟨g, i, none⟩ := by unfold Addr.add; split <;> simp_all
    rw [← this]; exact h1
/-- A row of bytes that the call itself made. -/
structure MyRow (w0 : World) (q n : Nat) (T : TypeId) (f : Nat → BitVec 8) (w : World) : Prop where
  below : Below w0.heap.size w0 w
  row : w.heap[q]? = some (.cells (bytesArr f n) T (0, 0))
  new : w0.heap.size ≤ q
theorem MyRow.lt {w0 w : World} {q n : Nat} {T : TypeId} {f : Nat → BitVec 8} (h : MyRow w0 q n T f w) : q < w.heap.size := lt_of_heap h.row
theorem MyRow.later {w0 w w1 : World} {q n : Nat} {T : TypeId} {f : Nat → BitVec 8} (h : MyRow w0 q n T f w) (hb : Below w.heap.size w w1) : MyRow w0 q n T f w1 :=
  ⟨h.below.trans (hb.mono h.below.size), by rw [hb.block _ (lt_of_heap h.row)]; exact h.row, h.new⟩
theorem MyRow.free {w0 w : World} {q n : Nat} {T : TypeId} {f : Nat → BitVec 8} (h : MyRow w0 q n T f w) (j : Nat) : w.frozen? ⟨q, j, none⟩ = false := frozen_of_row _ _ _ _ _ h.row
theorem MyRow.at {w0 w : World} {q n : Nat} {T : TypeId} {f : Nat → BitVec 8} (h : MyRow w0 q n T f w) (j : Nat) (hj : j < n) : w.cell? ⟨q, j, none⟩ = some (.int .u8 (n8 (f j))) := by
  rw [cell_of_row _ _ _ _ _ _ h.row]; exact bytesArr_get f n j hj
theorem MyRow.set {w0 w : World} {q n : Nat} {T : TypeId} {f : Nat → BitVec 8} (h : MyRow w0 q n T f w) (j : Nat) (y : BitVec 8) : MyRow w0 q n T (updb f j y) (w.setCell ⟨q, j, none⟩ (.int .u8 (n8 y))) :=
  ⟨h.below.setCell h.new _, by rw [heap_setCell_same _ _ _ _ _ _ h.row, bytesArr_set], h.new⟩
theorem MyRow.made {w0 w : World} (hb : Below w0.heap.size w0 w) (f : Nat → BitVec 8) (n : Nat) (T : TypeId) : MyRow w0 w.heap.size n T f (w.alloc (.cells (bytesArr f n) T)) :=
  ⟨hb.alloc hb.size _, heap_alloc_last _ _, hb.size⟩
/-- A []byte that lies at an address, of any make. -/
theorem bytesIn_cells {w : World} {b n : Nat} {f : Nat → BitVec 8} {T : TypeId} {fr : Nat × Nat} (h : w.heap[b]? = some (.cells (bytesArr f n) T fr)) (i : Nat) (hi : i < n) : w.cell? ⟨b, i, none⟩ = some (.int .u8 (n8 (f i))) := by
  rw [cell_of_row _ _ _ _ _ _ h]; exact bytesArr_get f n i hi
end Go.Proofs.YtjbpjoondmcnlabDoor
