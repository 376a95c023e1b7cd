/-
  A REGION THAT DRAWS ITS ORDER AND MAKES NEW VARIABLES beside reads and calls that make memory: the values that are read and answered don't hang on the order; the new variables lie in new blocks, each in one of its own. One walk of the head in the text's order, past the new variables, serves every order.
-/
import Derived.Test.YtmfiabkhnoimhaaFast
namespace Go.Proofs.Ytmfiabkhnoimhaa
open Go Go.RowKit Go.BigFrame
def allocOf (o : Oper) : Option TypeId := match o.op with | .alloc T => some T | _ => none
theorem allocOf_some {o : Oper} {T : TypeId} (h : allocOf o = some T) : o.op = .alloc T := by
  unfold allocOf at h
  split at h
  · rename_i h1; injection h with h; rw [h1, h]
  · cases h
/-- The head in the text's order, past the new variables. -/
def wpNew (P : Program) (W : World) (Q : Act → Prop) : List Oper → Act → Prop
  | [], a => Q a
  | o :: rest, a => if (allocOf o).isSome then wpNew P W Q rest a else ∃ v, (∀ w, Below W.heap.size W w → o.quietAt P a (fun w'' => Below w.heap.size w w'') w v) ∧ wpNew P W Q rest (a.put o.dst v)
theorem wpNew_skip {P : Program} {W : World} {Q : Act → Prop} {o : Oper} {rest : List Oper} {n : Nat} {a : Act} (h0 : (allocOf o).isSome = true) (h : wpNew P W Q (rest.take n) a) : wpNew P W Q ((o :: rest).take (n + 1)) a := by
  rw [List.take_succ_cons]
  unfold wpNew
  rw [if_pos h0]
  exact h
theorem wpNew_step {P : Program} {W : World} {Q : Act → Prop} {o : Oper} {rest : List Oper} {n : Nat} {a : Act} (h0 : (allocOf o).isSome = false)
    (h : ∀ K : Act → Prop, (∀ a, wpNew P W Q (rest.take n) a → K a) → ∃ v, (∀ w, Below W.heap.size W w → o.quietAt P a (fun w'' => Below w.heap.size w w'') w v) ∧ K (a.put o.dst v)) : wpNew P W Q ((o :: rest).take (n + 1)) a := by
  rw [List.take_succ_cons]
  unfold wpNew
  rw [if_neg (by simp [h0])]
  exact h _ (fun _ h => h)
theorem wpNew_nil {P : Program} {W : World} {Q : Act → Prop} {l : List Oper} {a : Act} (h : Q a) : wpNew P W Q (l.take 0) a := by
  rw [List.take_zero]
  exact h
theorem wpNew_acts {P : Program} {W : World} {Q : Act → Prop} : ∀ (l : List Oper) (a : Act), wpNew P W Q l a → ∃ (val : Nat → Value) (acts : Nat → Act), acts 0 = a ∧
    (∀ i o, l[i]? = some o → allocOf o = none → (∀ w, Below W.heap.size W w → o.quietAt P (acts i) (fun w'' => Below w.heap.size w w'') w (val i)) ∧ acts (i + 1) = (acts i).put o.dst (val i)) ∧
    (∀ i o T, l[i]? = some o → allocOf o = some T → acts (i + 1) = acts i) ∧ Q (acts l.length)
  | [], a, h => ⟨fun _ => undef, fun _ => a, rfl, fun i o h => by simp at h, fun i o T h => by simp at h, h⟩
  | o :: l, a, h => by
    unfold wpNew at h
    by_cases h0 : (allocOf o).isSome = true
    · rw [if_pos h0] at h
      obtain ⟨val, acts, e0, h1, h2, h3⟩ := wpNew_acts l a h
      refine ⟨fun i => val (i - 1), fun i => if i = 0 then a else acts (i - 1), rfl, fun i x hx hn => ?_, fun i x T hx hn => ?_, by simpa using h3⟩
      · match i with
        | 0 => simp at hx; subst hx; rw [hn] at h0; cases h0
        | i + 1 =>
          have := h1 i x (by simpa using hx) hn
          simpa using this
      · match i with
        | 0 => simp [e0]
        | i + 1 =>
          have := h2 i x T (by simpa using hx) hn
          simpa using this
    · rw [if_neg h0] at h
      obtain ⟨v, hv, h⟩ := h
      obtain ⟨val, acts, e0, h1, h2, h3⟩ := wpNew_acts l _ h
      refine ⟨fun i => if i = 0 then v else val (i - 1), fun i => if i = 0 then a else acts (i - 1), rfl, fun i x hx hn => ?_, fun i x T hx hn => ?_, by simpa using h3⟩
      · match i with
        | 0 => simp at hx; subst hx; simp only [if_pos]; exact ⟨hv, by simp [e0]⟩
        | i + 1 =>
          have := h1 i x (by simpa using hx) hn
          simpa using this
      · match i with
        | 0 => simp at hx; subst hx; rw [hn] at h0; simp at h0
        | i + 1 =>
          have := h2 i x T (by simpa using hx) hn
          simpa using this
/-- What is asked of the region. -/
def newB (l : List Oper) (n : Nat) : Bool :=
  Region.noSelect l.toArray && decide (n < l.length) && Region.sinkB .any l.toArray n && Region.chainB .any l.toArray n && Region.seqB .any l.toArray (l.length - n) n (canon l.length n) &&
  ((List.range n).all fun j => match l[j]? with
    | none => false
    | some o => o.guard.isNone && o.dst.isSome && (o.after.all fun e => !Region.binds .any e || decide (e.on < j)) &&
      ((List.range n).all fun i => i == j || (match l[i]? with | some x => x.dst != o.dst | none => false)) &&
      (o.looksAt l.toArray).all fun t => ((List.range n).all fun i => match l[i]? with | some x => x.dst != some t | none => false) ||
        (o.after.any fun e => Region.binds .any e && (match l[e.on]? with | some x => x.dst == some t && (allocOf x).isNone | none => false)))
structure NewOk (l : List Oper) (n : Nat) : Prop where
  sel : Region.noSelect l.toArray = true
  len : n < l.length
  sink : Region.sinkB .any l.toArray n = true
  chain : Region.chainB .any l.toArray n = true
  seq : Region.seqB .any l.toArray (l.length - n) n (canon l.length n) = true
  guard : ∀ (j : Nat) (o : Oper), j < n → l[j]? = some o → o.guard = none
  dst : ∀ (j : Nat) (o : Oper), j < n → l[j]? = some o → ∃ d, o.dst = some d
  fwd : ∀ (j : Nat) (o : Oper), j < n → l[j]? = some o → ∀ e ∈ o.after, Region.binds .any e = true → e.on < j
  inj : ∀ (i j : Nat) (x o : Oper), i < n → j < n → l[i]? = some x → l[j]? = some o → x.dst = o.dst → i = j
  look : ∀ (j : Nat) (o : Oper), j < n → l[j]? = some o → ∀ t ∈ o.looksAt l.toArray, (∀ (i : Nat) (x : Oper), i < n → l[i]? = some x → x.dst ≠ some t) ∨
    ∃ e ∈ o.after, Region.binds .any e = true ∧ ∃ x, l[e.on]? = some x ∧ x.dst = some t ∧ allocOf x = none
theorem newOk {l : List Oper} {n : Nat} (h : newB l n = true) : NewOk l n := by
  simp only [newB, Bool.and_eq_true, decide_eq_true_eq] at h
  obtain ⟨⟨⟨⟨⟨h1, h2⟩, h3⟩, h4⟩, h5⟩, h6⟩ := h
  have key : ∀ (j : Nat) (o : Oper), j < n → l[j]? = some o → _ := fun j o hj ho => by
    have := List.all_eq_true.1 h6 j (List.mem_range.2 hj)
    rw [ho] at this
    simp only [Bool.and_eq_true] at this
    exact this
  refine ⟨h1, h2, h3, h4, h5, fun j o hj ho => ?_, fun j o hj ho => ?_, fun j o hj ho e he hb => ?_, fun i j x o hi hj hx ho hd => ?_, fun j o hj ho t ht => ?_⟩
  · simpa using (key j o hj ho).1.1.1.1
  · exact Option.isSome_iff_exists.1 (key j o hj ho).1.1.1.2
  · have := (Array.all_eq_true_iff_forall_mem.1 (key j o hj ho).1.1.2) e he
    simpa [hb] using this
  · have := (List.all_eq_true.1 (key j o hj ho).1.2) i (List.mem_range.2 hi)
    rw [hx] at this
    simpa [hd] using this
  · have := (List.all_eq_true.1 (key j o hj ho).2) t ht
    simp only [Bool.or_eq_true] at this
    rcases this with h7 | h7
    · left
      intro i x hi hx
      have := (List.all_eq_true.1 h7) i (List.mem_range.2 hi)
      rw [hx] at this
      simpa using this
    · right
      obtain ⟨e, he, hb⟩ := Array.any_eq_true'.1 h7
      simp only [Bool.and_eq_true] at hb
      refine ⟨e, he, hb.1, ?_⟩
      have h8 := hb.2
      split at h8
      · rename_i x hx
        simp only [Bool.and_eq_true, beq_iff_eq] at h8
        exact ⟨x, hx, h8.1, by simpa using h8.2⟩
      · cases h8
def newPtr (b : Nat) : Value := .pointer (some ⟨b, 0, none⟩)
theorem put_get (a : Act) (d s : Nat) (v : Value) : (a.put (some d) v).tmps[s]? = if d = s then (if d < a.tmps.size then some v else none) else a.tmps[s]? := by
  show (a.tmps.setIfInBounds d v)[s]? = _
  rw [Array.getElem?_setIfInBounds]
theorem put_size (a : Act) (d : Option Tmp) (v : Value) : (a.put d v).tmps.size = a.tmps.size := by
  cases d <;> simp [Act.put]
theorem put_def (a : Act) (d : Option Tmp) (v : Value) : (a.put d v).defers = a.defers := by
  cases d <;> rfl
/-- The new variables of a head: number and slot. -/
def newsOf (n : Nat) (l : List Oper) : List (Nat × Nat) := (List.range n).filterMap fun i => match l[i]? with | some o => (match allocOf o, o.dst with | some _, some d => some (i, d) | _, _ => none) | none => none
def putNews (bs : Nat → Nat) (a : Act) : List (Nat × Nat) → Act
  | [] => a
  | p :: ps => putNews bs (a.put (some p.2) (newPtr (bs p.1))) ps
theorem putNews_get (bs : Nat → Nat) : ∀ (ps : List (Nat × Nat)) (a : Act), (∀ p ∈ ps, ∀ q ∈ ps, p.2 = q.2 → p = q) → (putNews bs a ps).tmps.size = a.tmps.size ∧ (putNews bs a ps).defers = a.defers ∧
    (∀ p ∈ ps, p.2 < a.tmps.size → (putNews bs a ps).tmps[p.2]? = some (newPtr (bs p.1))) ∧ (∀ s, (∀ p ∈ ps, p.2 ≠ s) → (putNews bs a ps).tmps[s]? = a.tmps[s]?)
  | [], a, _ => ⟨rfl, rfl, fun p hp => by simp at hp, fun _ _ => rfl⟩
  | p :: ps, a, hi => by
    obtain ⟨h1, h2, h3, h4⟩ := putNews_get bs ps (a.put (some p.2) (newPtr (bs p.1))) (fun x hx y hy => hi x (List.mem_cons_of_mem _ hx) y (List.mem_cons_of_mem _ hy))
    unfold putNews
    refine ⟨by rw [h1, put_size], by rw [h2, put_def], fun q hq hlt => ?_, fun s hs => ?_⟩
    · by_cases hqp : q ∈ ps
      · exact h3 q hqp (by rw [put_size]; exact hlt)
      · have hq' : q = p := by rcases List.mem_cons.1 hq with h | h; exact h; exact absurd h hqp
        subst hq'
        rw [h4 q.2 (fun r hr he => hqp (by rw [← hi r (List.mem_cons_of_mem _ hr) q (by simp) he]; exact hr)), put_get, if_pos rfl, if_pos hlt]
    · rw [h4 s (fun q hq => hs q (List.mem_cons_of_mem _ hq)), put_get, if_neg (hs p (by simp))]
/-- What holds behind whichever operations of the head have been carried out. -/
structure NewInv (P : Program) (l : List Oper) (n : Nat) (W : World) (a0 : Act) (val : Nat → Value) (zero : TypeId → Array Value) (bs : Nat → Nat) (listed : Array Bool) (a : Act) (w : World) : Prop where
  below : Below W.heap.size W w
  defs : a.defers = a0.defers
  size : a.tmps.size = a0.tmps.size
  done : ∀ (i : Nat) (o : Oper) (d : Nat), i < n → l[i]? = some o → listed.getD i false = true → o.dst = some d → d < a0.tmps.size → a.tmps[d]? = some (if (allocOf o).isSome then newPtr (bs i) else val i)
  rest : ∀ s, (∀ (i : Nat) (o : Oper), i < n → l[i]? = some o → listed.getD i false = true → o.dst ≠ some s) → a.tmps[s]? = a0.tmps[s]?
  rows : ∀ (i : Nat) (o : Oper) (T : TypeId), i < n → l[i]? = some o → listed.getD i false = true → allocOf o = some T → W.heap.size ≤ bs i ∧ w.heap[bs i]? = some (.cells (zero T) T (0, 0))
  apart : ∀ (i j : Nat) (x o : Oper), i < n → j < n → l[i]? = some x → l[j]? = some o → listed.getD i false = true → listed.getD j false = true → (allocOf x).isSome = true → (allocOf o).isSome = true → bs i = bs j → i = j
theorem run_alloc_row {P : Program} {o : Oper} {a : Act} {w : World} (T : TypeId) (ho : o.op = .alloc T) (cs : Array Value) (hz : (P.info? T).map (·.zero) = some (some (.agg cs))) :
    (execOp a.eval o).run P w = .ok (.value (newPtr w.heap.size)) (w.alloc (.cells cs T)) := by
  unfold execOp
  cases hq : P.info? T with
  | none => simp [hq] at hz
  | some x =>
    have hx : x.zero = some (.agg cs) := by simpa [hq] using hz
    simp only [ho]
    simp [Instr.alloc, zeroValue, typeInfo, hq, hx, go_sem, Sem.run_bind, Value.cells, newPtr]
theorem getD_listed {listed : Array Bool} {i k : Nat} (h : (listed.setIfInBounds i true).getD k false = true) : k = i ∨ listed.getD k false = true := by
  by_cases hk : k = i
  · exact .inl hk
  · right
    rwa [getD_set_ne false (fun e => hk e.symm)] at h
/-- One operation of the head, whenever it may come up. -/
theorem new_step {P : Program} {Q' : Exit → Act → World → Prop} {l : List Oper} {n : Nat} {W : World} {a0 : Act} {val : Nat → Value} {acts : Nat → Act} {zero : TypeId → Array Value} (ok : NewOk l n)
    (hz : ∀ (i : Nat) (o : Oper) (T : TypeId), i < n → l[i]? = some o → allocOf o = some T → (P.info? T).map (·.zero) = some (some (.agg (zero T))))
    (hlex : ∀ i, i ≤ n → (∀ (j : Nat) (x : Oper) (d : Nat), j < i → l[j]? = some x → allocOf x = none → x.dst = some d → d < a0.tmps.size → (acts i).tmps[d]? = some (val j)) ∧
      (∀ s, (∀ (j : Nat) (x : Oper), j < n → l[j]? = some x → allocOf x = none → x.dst ≠ some s) → (acts i).tmps[s]? = a0.tmps[s]?) ∧ (acts i).tmps.size = a0.tmps.size ∧ (acts i).defers = a0.defers)
    (hq : ∀ (i : Nat) (o : Oper), i < n → l[i]? = some o → allocOf o = none → ∀ w, Below W.heap.size W w → o.quietAt P (acts i) (fun w'' => Below w.heap.size w w'') w (val i))
    {listed : Array Bool} {a : Act} {w : World} {bs : Nat → Nat} (hinv : HeadInv .any l.toArray n listed) (inv : NewInv P l n W a0 val zero bs listed a w) {i : Nat} (hin : i < n) (hr : i ∈ Region.ready .any l.toArray listed)
    {K : Act → World → Prop} (hK : ∀ bs' a' w', NewInv P l n W a0 val zero bs' (listed.setIfInBounds i true) a' w' → K a' w') : wpOp P l.toArray Q' i K a w := by
  obtain ⟨hun, o, ho', hall⟩ := mem_ready.1 hr
  have ho : l[i]? = some o := by simpa using ho'
  obtain ⟨d, hd⟩ := ok.dst i o hin ho
  have hg := ok.guard i o hin ho
  have hw1 : Region.wanted o (yielded l.toArray a.tmps) = true := by unfold Region.wanted; rw [hg]
  have hnot : listed.getD i false = false := getD_both hun
  have hilt : i < listed.size := by rw [hinv.size]; simpa using (List.getElem?_eq_some_iff.1 ho).1
  unfold wpOp
  rw [ho']
  simp only [hw1, if_true]
  left
  have after : ∀ (v : Value) (w' : World) (bs' : Nat → Nat), Below W.heap.size W w' → (∀ k, k ≠ i → bs' k = bs k) → v = (if (allocOf o).isSome then newPtr (bs' i) else val i) →
      (∀ T, allocOf o = some T → W.heap.size ≤ bs' i ∧ w'.heap[bs' i]? = some (.cells (zero T) T (0, 0)) ∧ w.heap.size ≤ bs' i) → (∀ k, k < w.heap.size → W.heap.size ≤ k → w'.heap[k]? = w.heap[k]?) →
      NewInv P l n W a0 val zero bs' (listed.setIfInBounds i true) (a.put o.dst v) w' := fun v w' bs' hb hbs hv hro hkeep => by
    refine ⟨hb, by rw [put_def, inv.defs], by rw [put_size, inv.size], fun j x e hj hx hl he hlt => ?_, fun s hs => ?_, fun j x T hj hx hl hT => ?_, fun j k x y hj hk hx hy hlj hlk hjs hks he => ?_⟩
    · rw [hd]
      have hlt' : e < a0.tmps.size := hlt
      by_cases hji : j = i
      · subst hji
        obtain rfl : x = o := Option.some.inj (hx.symm.trans ho)
        have hde : d = e := Option.some.inj (hd.symm.trans he)
        rw [put_get, if_pos hde, if_pos (by rw [inv.size, hde]; exact hlt'), hv]
      · have hl' : listed.getD j false = true := by rcases getD_listed hl with h | h; exact absurd h hji; exact h
        have hne : d ≠ e := fun h => hji (ok.inj j i x o hj hin hx ho (by rw [he, hd, h]))
        rw [put_get, if_neg hne, inv.done j x e hj hx hl' he hlt, hbs j hji]
    · have hds : d ≠ s := fun h => hs i o hin ho (by simp [hilt]) (by rw [hd, h])
      rw [hd, put_get, if_neg hds]
      refine inv.rest s (fun j x hj hx hl => hs j x hj hx ?_)
      by_cases hji : j = i
      · subst hji; simp [hilt]
      · rw [getD_set_ne false (fun e => hji e.symm)]; exact hl
    · by_cases hji : j = i
      · subst hji
        obtain rfl : x = o := Option.some.inj (hx.symm.trans ho)
        obtain ⟨h1, h2, _⟩ := hro T hT
        exact ⟨h1, h2⟩
      · have hl' : listed.getD j false = true := by rcases getD_listed hl with h | h; exact absurd h hji; exact h
        obtain ⟨h1, h2⟩ := inv.rows j x T hj hx hl' hT
        rw [hbs j hji]
        exact ⟨h1, by rw [hkeep _ (lt_row h2) h1]; exact h2⟩
    · by_cases hji : j = i <;> by_cases hki : k = i
      · rw [hji, hki]
      · subst hji
        obtain rfl : x = o := Option.some.inj (hx.symm.trans ho)
        have hl' : listed.getD k false = true := by rcases getD_listed hlk with h | h; exact absurd h hki; exact h
        obtain ⟨T, hT⟩ := Option.isSome_iff_exists.1 hjs
        obtain ⟨T', hT'⟩ := Option.isSome_iff_exists.1 hks
        have h1 := (hro T hT).2.2
        have h2 := lt_row (inv.rows k y T' hk hy hl' hT').2
        rw [hbs k hki] at he
        omega
      · subst hki
        obtain rfl : y = o := Option.some.inj (hy.symm.trans ho)
        have hl' : listed.getD j false = true := by rcases getD_listed hlj with h | h; exact absurd h hji; exact h
        obtain ⟨T, hT⟩ := Option.isSome_iff_exists.1 hks
        obtain ⟨T', hT'⟩ := Option.isSome_iff_exists.1 hjs
        have h1 := (hro T hT).2.2
        have h2 := lt_row (inv.rows j x T' hj hx hl' hT').2
        rw [hbs j hji] at he
        omega
      · have hlj' : listed.getD j false = true := by rcases getD_listed hlj with h | h; exact absurd h hji; exact h
        have hlk' : listed.getD k false = true := by rcases getD_listed hlk with h | h; exact absurd h hki; exact h
        rw [hbs j hji, hbs k hki] at he
        exact inv.apart j k x y hj hk hx hy hlj' hlk' hjs hks he
  cases hal : allocOf o with
  | some T =>
    unfold Oper.wp
    rw [run_alloc_row T (allocOf_some hal) (zero T) (hz i o T hin ho hal)]
    refine hK (fun k => if k = i then w.heap.size else bs k) _ _ (after _ _ _ (inv.below.alloc inv.below.size _) (fun k hk => by simp [hk]) (by simp [hal]) (fun T' hT' => ?_) (fun k hk _ => Below.heap_alloc _ _ _ hk))
    obtain rfl : T = T' := Option.some.inj (hal.symm.trans hT')
    simp only [if_pos]
    exact ⟨inv.below.size, heap_alloc_last _ _, Nat.le_refl _⟩
  | none =>
    have heval : execOp a.eval o = execOp (acts i).eval o := by
      refine execOp_congr o (Region.noSelect_spec ok.sel i o · · ho') (fun x hx => ?_)
      cases x with
      | tmp t =>
        have ht : t ∈ o.looksAt l.toArray := List.mem_append_left _ (List.mem_filterMap.2 ⟨.tmp t, by simpa using hx, rfl⟩)
        have hget : a.tmps[t]? = (acts i).tmps[t]? := by
          rcases ok.look i o hin ho t ht with h | ⟨e, he, hb, x, hx1, hx2, hx3⟩
          · rw [inv.rest t (fun j y hj hy _ => h j y hj hy), (hlex i (by omega)).2.1 t (fun j y hj hy _ => h j y hj hy)]
          · have hlt := ok.fwd i o hin ho e he hb
            by_cases hsz : t < a0.tmps.size
            · rw [inv.done e.on x t (by omega) hx1 (hall e he hb) hx2 hsz, (hlex i (by omega)).1 e.on x t hlt hx1 hx3 hx2 hsz]
              simp [hx3]
            · rw [Array.getElem?_eq_none (by rw [inv.size]; exact Nat.le_of_not_lt hsz), Array.getElem?_eq_none (by rw [(hlex i (by omega)).2.2.1]; exact Nat.le_of_not_lt hsz)]
        simp only [Act.eval, Array.getD_eq_getD_getElem?, hget]
      | _ => rfl
    have h1 := hq i o hin ho hal w inv.below
    unfold Oper.quietAt at h1
    unfold Oper.wp
    rw [heval]
    generalize (execOp (acts i).eval o).run P w = r at *
    cases r with
    | halt x w' => simp only [Oper.quietUpon] at h1
    | ok nx w' =>
      cases nx <;> simp only [Oper.quietUpon] at h1
      case value u =>
        obtain ⟨rfl, rfl⟩ := h1
        exact hK bs _ _ (after _ _ bs inv.below (fun _ _ => rfl) (by simp [hal]) (fun T' hT' => by rw [hal] at hT'; cases hT') (fun _ _ _ => rfl))
      case skip =>
        obtain ⟨rfl, hv⟩ := h1
        exact hK bs _ _ (after _ _ bs inv.below (fun _ _ => rfl) (by simp [hal, hv]) (fun T' hT' => by rw [hal] at hT'; cases hT') (fun _ _ _ => rfl))
      case enter f args =>
        obtain ⟨rfl, h2⟩ := h1
        refine Calls.mono h2 (fun e w'' ⟨he, hb⟩ => ?_)
        subst he
        exact hK bs _ _ (after _ _ bs (inv.below.trans (hb.mono inv.below.size)) (fun _ _ => rfl) (by simp [hal]) (fun T' hT' => by rw [hal] at hT'; cases hT') (fun k hk _ => hb.block k hk))
def countTo : Nat → (Nat → Bool) → Nat
  | 0, _ => 0
  | n + 1, p => countTo n p + if p n then 1 else 0
theorem countTo_congr (n : Nat) (p q : Nat → Bool) (h : ∀ j, j < n → p j = q j) : countTo n p = countTo n q := by
  induction n with
  | zero => rfl
  | succ n ih => unfold countTo; rw [ih (fun j hj => h j (by omega)), h n (by omega)]
theorem countTo_one (n i : Nat) (p q : Nat → Bool) (hi : i < n) (hp : p i = true) (hq : q i = false) (h : ∀ j, j ≠ i → p j = q j) : countTo n p = countTo n q + 1 := by
  induction n with
  | zero => omega
  | succ n ih =>
    unfold countTo
    by_cases hin : i = n
    · subst hin
      rw [countTo_congr i p q (fun j hj => h j (by omega)), hp, hq]
      simp
    · rw [ih (by omega), h n (fun e => hin e.symm)]
      omega
theorem countTo_pos (n : Nat) (p : Nat → Bool) (h : 0 < countTo n p) : ∃ i, i < n ∧ p i = true := by
  induction n with
  | zero => simp [countTo] at h
  | succ n ih =>
    unfold countTo at h
    cases hp : p n with
    | true => exact ⟨n, by omega, hp⟩
    | false =>
      rw [hp] at h
      obtain ⟨i, hi, h2⟩ := ih (by simpa using h)
      exact ⟨i, by omega, h2⟩
theorem countTo_zero (n : Nat) (p : Nat → Bool) (h : countTo n p = 0) : ∀ i, i < n → p i = false := by
  induction n with
  | zero => intro i hi; omega
  | succ n ih =>
    unfold countTo at h
    intro i hi
    cases hp : p n with
    | true => rw [hp] at h; simp at h
    | false =>
      by_cases hin : i = n
      · rw [hin, hp]
      · exact ih (by omega) i (by omega)
theorem least_of (p : Nat → Prop) (k : Nat) (h : p k) : ∃ m, p m ∧ ∀ i, i < m → ¬ p i := by
  induction k using Nat.strongRecOn with
  | ind k ih =>
    by_cases h1 : ∃ i, i < k ∧ p i
    · obtain ⟨i, hi, hp⟩ := h1
      exact ih i hi hp
    · exact ⟨k, h, fun i hi hp => h1 ⟨i, hi, hp⟩⟩
/-- THE LAW. -/
theorem region_new {P : Program} {id : Nat} {Q' : Exit → Act → World → Prop} {a0 : Act} {w : World} {l : List Oper} (n : Nat) (zero : TypeId → Array Value) (hm : P.follows .mixedOrders = true) (hB : newB l n = true)
    (hz : ∀ (i : Nat) (o : Oper) (T : TypeId), i < n → l[i]? = some o → allocOf o = some T → (P.info? T).map (·.zero) = some (some (.agg (zero T))))
    (h : wpNew P w.drew (fun aN => ∀ (bs : Nat → Nat) (w' : World), Below w.heap.size w.drew w' →
      (∀ (i : Nat) (o : Oper) (T : TypeId), i < n → l[i]? = some o → allocOf o = some T → w.heap.size ≤ bs i ∧ w'.heap[bs i]? = some (.cells (zero T) T (0, 0))) →
      (∀ (i j : Nat) (x o : Oper), i < n → j < n → l[i]? = some x → l[j]? = some o → (allocOf x).isSome = true → (allocOf o).isSome = true → bs i = bs j → i = j) →
      wpList P l.toArray Q' (l.drop n) (putNews bs aN (newsOf n l)) w') (l.take n) a0) : (Code.region id l.toArray true).wp P Q' a0 w := by
  have ok := newOk hB
  obtain ⟨val, acts, e0, hq, hsk, hQ⟩ := wpNew_acts _ _ h
  have hlt : (l.take n).length = n := by rw [List.length_take]; exact Nat.min_eq_left (Nat.le_of_lt ok.len)
  rw [hlt] at hQ
  have tk : ∀ i, i < n → (l.take n)[i]? = l[i]? := fun i hi => by rw [List.getElem?_take, if_pos hi]
  have hlex : ∀ i, i ≤ n → (∀ (j : Nat) (x : Oper) (d : Nat), j < i → l[j]? = some x → allocOf x = none → x.dst = some d → d < a0.tmps.size → (acts i).tmps[d]? = some (val j)) ∧
      (∀ s, (∀ (j : Nat) (x : Oper), j < n → l[j]? = some x → allocOf x = none → x.dst ≠ some s) → (acts i).tmps[s]? = a0.tmps[s]?) ∧ (acts i).tmps.size = a0.tmps.size ∧ (acts i).defers = a0.defers := by
    intro i
    induction i with
    | zero => intro _; rw [e0]; exact ⟨fun j x d hj => by omega, fun _ _ => rfl, rfl, rfl⟩
    | succ i ih =>
      intro hi
      obtain ⟨h1, h2, h3, h4⟩ := ih (by omega)
      obtain ⟨o, ho⟩ : ∃ o, l[i]? = some o := ⟨l[i]'(by have := ok.len; omega), List.getElem?_eq_getElem _⟩
      cases hal : allocOf o with
      | some T =>
        rw [hsk i o T (by rw [tk i (by omega)]; exact ho) hal]
        refine ⟨fun j x d hj hx hn hd hsz => ?_, h2, h3, h4⟩
        by_cases hji : j = i
        · subst hji
          obtain rfl : x = o := Option.some.inj (hx.symm.trans ho)
          rw [hal] at hn; cases hn
        · exact h1 j x d (by omega) hx hn hd hsz
      | none =>
        rw [(hq i o (by rw [tk i (by omega)]; exact ho) hal).2]
        obtain ⟨e, he⟩ := ok.dst i o (by omega) ho
        rw [he]
        refine ⟨fun j x d hj hx hn hd hsz => ?_, fun s hs => ?_, by rw [put_size, h3], by rw [put_def, h4]⟩
        · by_cases hji : j = i
          · subst hji
            obtain rfl : x = o := Option.some.inj (hx.symm.trans ho)
            have hde : e = d := Option.some.inj (he.symm.trans hd)
            have hde' : (e : Nat) < a0.tmps.size := by rw [hde]; exact hsz
            rw [put_get, if_pos hde, if_pos (by rw [h3]; exact hde')]
          · have hne : e ≠ d := fun hh => hji (ok.inj j i x o (by omega) (by omega) hx ho (by rw [hd, he, hh]))
            rw [put_get, if_neg hne]
            exact h1 j x d (by omega) hx hn hd hsz
        · rw [put_get, if_neg (fun hh => hs i o (by omega) ho hal (by rw [he, hh]))]
          exact h2 s hs
  have hq' : ∀ (i : Nat) (o : Oper), i < n → l[i]? = some o → allocOf o = none → ∀ w1, Below w.drew.heap.size w.drew w1 → o.quietAt P (acts i) (fun w'' => Below w1.heap.size w1 w'') w1 (val i) := fun i o hi ho hal =>
    (hq i o (by rw [tk i hi]; exact ho) hal).1
  have main : ∀ (f : Nat) (listed : Array Bool) (a : Act) (w1 : World), HeadInv .any l.toArray n listed → (∃ bs, NewInv P l n w.drew a0 val zero bs listed a w1) → countTo n (fun i => !listed.getD i true) = f →
      wpAny P .any l.toArray Q' (f + (l.length - n)) listed a w1 := by
    intro f
    induction f with
    | zero =>
      intro listed a w1 hinv ⟨bs, inv⟩ hc
      have hall : ∀ i, i < n → listed.getD i true = true := fun i hi => by simpa using countTo_zero n _ hc i hi
      have hin : ∀ i, i < n → listed.getD i false = true := fun i hi => by
        have h1 := hall i hi
        have h2 : i < listed.size := by rw [hinv.size]; simpa using Nat.lt_trans hi ok.len
        simpa [Array.getD, h2] using h1
      have hcan : listed = canon l.length n := by
        apply Array.ext
        · rw [hinv.size, canon_size]; simp
        · intro i h1 h2
          have h3 : i < l.length := by simpa [canon_size] using h2
          have e1 : listed.getD i true = decide (i < n) := by
            by_cases hi : i < n
            · rw [hall i hi]; simp [hi]
            · rw [hinv.tail i (by omega) (by simpa using h3)]; simp [hi]
          have e2 := canon_getD l.length n i true h3
          simp only [Array.getD, h1, h2, dif_pos] at e1 e2
          exact e1.trans e2.symm
      have hact : a = putNews bs (acts n) (newsOf n l) := by
        have hmem : ∀ p ∈ newsOf n l, p.1 < n ∧ ∃ o, l[p.1]? = some o ∧ (allocOf o).isSome = true ∧ o.dst = some p.2 := fun p hp => by
          obtain ⟨i, hi, h1⟩ := List.mem_filterMap.1 hp
          have hin' := List.mem_range.1 hi
          split at h1
          · rename_i o ho
            split at h1
            · rename_i T d hT hd
              injection h1 with h1
              subst h1
              exact ⟨hin', o, ho, by rw [hT]; rfl, hd⟩
            · cases h1
          · cases h1
        obtain ⟨g1, g2, g3, g4⟩ := putNews_get bs (newsOf n l) (acts n) (fun p hp q hq2 he => by
          obtain ⟨p1, x, px, _, pd⟩ := hmem p hp
          obtain ⟨q1, y, qy, _, qd⟩ := hmem q hq2
          have := ok.inj p.1 q.1 x y p1 q1 px qy (by rw [pd, qd, he])
          exact Prod.ext this he)
        obtain ⟨l1, l2, l3, l4⟩ := hlex n (Nat.le_refl n)
        have ht : a.tmps = (putNews bs (acts n) (newsOf n l)).tmps := by
          apply Array.ext_getElem?
          intro s
          by_cases hsz : s < a0.tmps.size
          · by_cases hex : ∃ i o, i < n ∧ l[i]? = some o ∧ o.dst = some s
            · obtain ⟨i, o, hi, ho, hd⟩ := hex
              rw [inv.done i o s hi ho (hin i hi) hd hsz]
              cases hal : allocOf o with
              | some T =>
                have hp : (i, s) ∈ newsOf n l := List.mem_filterMap.2 ⟨i, List.mem_range.2 hi, by rw [ho]; simp only [hal, hd]⟩
                rw [g3 (i, s) hp (by rw [l3]; exact hsz)]
                rfl
              | none =>
                rw [g4 s (fun p hp he => by
                  obtain ⟨p1, x, px, ps, pd⟩ := hmem p hp
                  have := ok.inj p.1 i x o p1 hi px ho (by rw [pd, hd, he])
                  subst this
                  obtain rfl : x = o := Option.some.inj (px.symm.trans ho)
                  rw [hal] at ps; cases ps), l1 i o s hi ho hal hd hsz]
                rfl
            · rw [inv.rest s (fun i o hi ho _ hd => hex ⟨i, o, hi, ho, hd⟩), g4 s (fun p hp he => by
                obtain ⟨p1, x, px, _, pd⟩ := hmem p hp
                exact hex ⟨p.1, x, p1, px, by rw [pd, he]⟩), l2 s (fun i o hi ho _ hd => hex ⟨i, o, hi, ho, hd⟩)]
          · rw [Array.getElem?_eq_none (by rw [inv.size]; omega), Array.getElem?_eq_none (by rw [g1, l3]; omega)]
        have hdf : a.defers = (putNews bs (acts n) (newsOf n l)).defers := by rw [inv.defs, g2, l4]
        cases a
        generalize putNews bs (acts n) (newsOf n l) = b at *
        cases b
        simp only at ht hdf
        rw [ht, hdf]
      have hfin := hQ bs w1 inv.below (fun i o T hi ho hT => inv.rows i o T hi ho (hin i hi) hT) (fun i j x o hi hj hx ho h1 h2 he => inv.apart i j x o hi hj hx ho (hin i hi) (hin j hj) h1 h2 he)
      rw [← hact] at hfin
      have hd : (l.drop n).length = l.length - n := by simp
      have := wpAny_of_seq (md := .any) (Q' := Q') (l.drop n) n listed a w1 (fun j => by simp [List.getElem?_drop]) (by rw [hd, hcan]; exact ok.seq) hfin
      rw [hd] at this
      rw [Nat.zero_add]
      exact this
    | succ f ih =>
      intro listed a w1 hinv ⟨bs, inv⟩ hc
      obtain ⟨i0, hi0, hu0⟩ := countTo_pos n _ (by rw [hc]; omega : 0 < countTo n (fun i => !listed.getD i true))
      have hu0' : listed.getD i0 true = false := by simpa using hu0
      rw [show f + 1 + (l.length - n) = (f + (l.length - n)) + 1 by omega]
      have hsz : n < l.toArray.size := by simpa using ok.len
      refine ⟨fun h0 => ?_, fun i hi => ?_⟩
      · obtain ⟨m, ⟨hm1, hm2⟩, hleast⟩ := least_of (fun i => i < n ∧ listed.getD i true = false) i0 ⟨hi0, hu0'⟩
        obtain ⟨o, ho⟩ : ∃ o, l[m]? = some o := ⟨l[m]'(by have := ok.len; omega), List.getElem?_eq_getElem _⟩
        have : m ∈ Region.ready .any l.toArray listed := mem_ready.2 ⟨hm2, o, by simpa using ho, fun e he hb => by
          have h1 := ok.fwd m o hm1 ho e he hb
          have h2 : listed.getD e.on true = true := by
            cases hx : listed.getD e.on true with
            | true => rfl
            | false => exact absurd ⟨by omega, hx⟩ (hleast e.on h1)
          have h3 : e.on < listed.size := by rw [hinv.size]; simp; have := ok.len; omega
          simpa [Array.getD, h3] using h2⟩
        rw [h0] at this
        cases this
      · have hin := below_n ok.sink ok.chain hsz hi0 hinv hu0' hi
        refine new_step ok hz hlex hq' hinv inv hin hi (fun bs' a' w' hnew => ?_)
        refine ih _ a' w' (hinv.set hi hin) ⟨bs', hnew⟩ ?_
        have hui := (mem_ready.1 hi).1
        have hilt : i < listed.size := by rw [hinv.size]; simp; have := ok.len; omega
        have := countTo_one n i (fun j => !listed.getD j true) (fun j => !(listed.setIfInBounds i true).getD j true) hin (by simp [hui]) (by simp [hilt]) (fun j hj => by
          show (!listed.getD j true) = !(listed.setIfInBounds i true).getD j true
          rw [getD_set_ne true (fun e => hj e.symm)])
        omega
  refine wp_region_any hm ?_
  have hsize : l.toArray.size = n + (l.length - n) := by simp; have := ok.len; omega
  rw [hsize]
  have inv0 : HeadInv .any l.toArray n (Array.replicate l.toArray.size false) :=
    ⟨by simp, fun j oj _ hl => (by rw [getD_replicate_false] at hl; cases hl), fun t _ ht => getD_in (by simpa using ht) (getD_replicate_false _ _)⟩
  have c0 : countTo n (fun i => !(Array.replicate l.toArray.size false).getD i true) = n := by
    have : ∀ m, m ≤ l.toArray.size → countTo m (fun i => !(Array.replicate l.toArray.size false).getD i true) = m := by
      intro m
      induction m with
      | zero => intro _; rfl
      | succ m ih =>
        intro hm2
        have g : (Array.replicate l.toArray.size false).getD m true = false := getD_in (by rw [Array.size_replicate]; omega) (getD_replicate_false _ _)
        unfold countTo
        rw [ih (by omega)]
        simp only [g]
        simp
    exact this n (by simp; exact Nat.le_of_lt ok.len)
  rw [← hsize]
  rw [hsize] at inv0 c0 ⊢
  exact main n _ a0 _ inv0 ⟨fun _ => 0, Below.refl _ _, rfl, rfl, fun i o d hi ho hl => (by rw [getD_replicate_false] at hl; cases hl), fun _ _ => rfl, fun i o T hi ho hl => (by rw [getD_replicate_false] at hl; cases hl),
    fun i j x o hi hj hx ho hl => (by rw [getD_replicate_false] at hl; cases hl)⟩ c0
/-- The law, with the new variables and the tail written out. -/
theorem region_news {P : Program} {id : Nat} {Q' : Exit → Act → World → Prop} {a0 : Act} {w : World} {l : List Oper} (n : Nat) (zero : TypeId → Array Value) (news : List (Nat × Nat)) (hm : P.follows .mixedOrders = true) (hB : newB l n = true)
    (hn : newsOf n l = news)
    (hz : ∀ (i : Nat) (o : Oper) (T : TypeId), i < n → l[i]? = some o → allocOf o = some T → (P.info? T).map (·.zero) = some (some (.agg (zero T))))
    (h : wpNew P w.drew (fun aN => ∀ (bs : Nat → Nat) (w' : World), Below w.heap.size w.drew w' →
      (∀ (i : Nat) (o : Oper) (T : TypeId), i < n → l[i]? = some o → allocOf o = some T → w.heap.size ≤ bs i ∧ w'.heap[bs i]? = some (.cells (zero T) T (0, 0))) →
      (∀ (i j : Nat) (x o : Oper), i < n → j < n → l[i]? = some x → l[j]? = some o → (allocOf x).isSome = true → (allocOf o).isSome = true → bs i = bs j → i = j) →
      wpList P l.toArray Q' (l.drop n) (putNews bs aN news) w') (l.take n) a0) : (Code.region id l.toArray true).wp P Q' a0 w := by
  subst hn
  exact region_new n zero hm hB hz h
/-- One type of the new variables. -/
theorem zero_one {P : Program} {l : List Oper} {n : Nat} {T : TypeId} {c : Array Value} (hz : (P.info? T).map (·.zero) = some (some (.agg c))) (h : ((l.take n).all fun o => match allocOf o with | some t => t == T | none => true) = true) :
    ∀ (i : Nat) (o : Oper) (t : TypeId), i < n → l[i]? = some o → allocOf o = some t → (P.info? t).map (·.zero) = some (some (.agg c)) := fun i o t hi ho ht => by
  have h1 := List.all_eq_true.1 h o (List.mem_of_getElem? (i := i) (by rw [List.getElem?_take, if_pos hi]; exact ho))
  rw [ht] at h1
  have : t = T := by simpa using h1
  subst this
  exact hz
end Go.Proofs.Ytmfiabkhnoimhaa
