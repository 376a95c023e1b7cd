/-
  A REGION THAT DRAWS ITS ORDER AND WHOSE OPERATIONS ONLY ADD MEMORY: what yields one value in every later world may be taken first, a call too; what makes memory comes up by itself.
-/
import Derived.RegionTactic
import Derived.OrdersHeld
import Derived.Deep.Quiet
import Derived.StillTail
import Derived.Below
namespace Go.Proofs.YtddpfbeclmgndaaDoor
open Go Go.RowKit
set_option linter.unusedVariables false
/-- A later world: all that was there stands. -/
def Ext (w w2 : World) : Prop := Below w.heap.size w w2
theorem Ext.refl (w : World) : Ext w w := Below.refl _ _
theorem Ext.trans {a b c : World} (h : Ext a b) (h2 : Ext b c) : Ext a c := Below.trans h (h2.mono (Below.size h))
section
variable {P : Program} {ops : Array Oper} {Q : Exit → Act → World → Prop} {md : Region.Mode}
/-- One value, in every later world. -/
def YieldsM (P : Program) (ops : Array Oper) (o : Oper) (v : Value) (a : Act) (w : World) : Prop :=
  (Region.wanted o (yielded ops a.tmps) = true ∧ ∀ w2, Ext w w2 → o.quietAt P a (Ext w2) w2 v) ∨ (Region.wanted o (yielded ops a.tmps) = false ∧ v = undef)
theorem YieldsM.later {o : Oper} {v : Value} {a : Act} {w w2 : World} (h : YieldsM P ops o v a w) (e : Ext w w2) : YieldsM P ops o v a w2 :=
  h.imp (fun ⟨h1, h2⟩ => ⟨h1, fun w3 h3 => h2 w3 (e.trans h3)⟩) id
theorem YieldsM.same {o : Oper} {v : Value} {a b : Act} {w : World} (h : YieldsM P ops o v a w) (he : execOp b.eval o = execOp a.eval o) (hw : Region.wanted o (yielded ops b.tmps) = Region.wanted o (yielded ops a.tmps)) : YieldsM P ops o v b w := by
  unfold YieldsM Oper.quietAt at *
  rw [he, hw]; exact h
/-- Whatever order is picked from here on, in whatever later world. -/
def anyM (P : Program) (md : Region.Mode) (ops : Array Oper) (Q : Exit → Act → World → Prop) : Nat → Array Bool → Act → World → Prop
  | 0, l, a, w => Region.ready md ops l = [] ∧ ∀ w2, Ext w w2 → Q .normal a w2
  | f + 1, l, a, w => (Region.ready md ops l = [] → ∀ w2, Ext w w2 → Q .normal a w2) ∧ ∀ i ∈ Region.ready md ops l, ∀ w2, Ext w w2 → wpOp P ops Q i (fun a' w' => Ext w2 w' ∧ anyM P md ops Q f (l.setIfInBounds i true) a' w') a w2
theorem anyM_later : ∀ {f : Nat} {l : Array Bool} {a : Act} {w w2 : World}, Ext w w2 → anyM P md ops Q f l a w → anyM P md ops Q f l a w2
  | 0, _, _, _, _, e, h => ⟨h.1, fun w3 h3 => h.2 w3 (e.trans h3)⟩
  | _ + 1, _, _, _, _, e, h => ⟨fun h0 w3 h3 => h.1 h0 w3 (e.trans h3), fun i hi w3 h3 => h.2 i hi w3 (e.trans h3)⟩
theorem anyM_any : ∀ {f : Nat} {l : Array Bool} {a : Act} {w : World}, anyM P md ops Q f l a w → wpAny P md ops Q f l a w
  | 0, _, _, w, h => ⟨h.1, h.2 w (Ext.refl w)⟩
  | _ + 1, _, _, w, h => ⟨fun h0 => h.1 h0 w (Ext.refl w), fun i hi => wpOp_mono (fun _ _ h' => anyM_any h'.2) (h.2 i hi w (Ext.refl w))⟩
theorem region_anyM {id : Nat} {a : Act} {w : World} (hm : P.follows .mixedOrders = true) (h : anyM P .any ops Q ops.size (Array.replicate ops.size false) a w.drew) : (Code.region id ops true).wp P Q a w :=
  wp_region_any hm (anyM_any h)
theorem YieldsM.op {i : Nat} {o : Oper} {v : Value} {a : Act} {w w2 : World} (hi : ops[i]? = some o) (hy : YieldsM P ops o v a w) (e : Ext w w2) {K : Act → World → Prop} (h : ∀ w3, Ext w2 w3 → K (a.put o.dst v) w3) : wpOp P ops Q i K a w2 := by
  refine wpOp_of_qOp (C := fun w3 => Ext w2 w3) (K := fun a' => a' = a.put o.dst v) (Ext.refl w2) (fun a' w3 h3 ha => by rw [ha]; exact h w3 h3) ?_
  refine YieldsIn.qOp (v := v) hi ?_ rfl
  refine hy.imp (fun ⟨h1, h2⟩ => ⟨h1, fun w3 h3 => ?_⟩) _root_.id
  have q := h2 w3 (e.trans h3)
  unfold Oper.quietAt at *
  generalize (execOp a.eval o).run P w3 = r at *
  cases r with
  | halt x w' => exact q
  | ok n w' =>
    cases n <;> first | exact q | skip
    all_goals
      obtain ⟨q1, q2⟩ := q
      exact ⟨q1, q2.mono fun e w4 h4 => ⟨h4.1, h3.trans h4.2⟩⟩
/-- What another operation shows with the value laid, it shows without it. -/
theorem wpOp_aside {j : Nat} {oi oj : Oper} {v : Value} {w0 : World} (hj : ops[j]? = some oj) (hap : oi.apart ops oj = true) (hsi : ∀ cs b, oi.op ≠ .select cs b) (hsj : ∀ cs b, oj.op ≠ .select cs b)
    (hQ : ∀ c a w, Q (.panic c) (a.put oi.dst v) w → Q (.panic c) a w) {K : Act → World → Prop} {a : Act} {w : World} (hy : YieldsM P ops oi v a w0) (h : wpOp P ops Q j K (a.put oi.dst v) w) :
    wpOp P ops Q j (fun a' w' => YieldsM P ops oi v a' w0 ∧ K (a'.put oi.dst v) w') a w := by
  obtain ⟨p1, p2, p3⟩ := Oper.apart_spec hap
  have st : ∀ b : Act, YieldsM P ops oi v b w0 → ∀ u, YieldsM P ops oi v (b.put oj.dst u) w0 := fun b hb u => hb.same (execOp_put oi hsi b oj.dst u p3) (wanted_put oi b oj.dst u p3)
  have sw : ∀ (b : Act) (u : Value) (w' : World), K ((b.put oi.dst v).put oj.dst u) w' → K ((b.put oj.dst u).put oi.dst v) w' := fun b u w' hk => by rw [← Act.put_comm b v u p2]; exact hk
  unfold wpOp at h ⊢
  simp only [hj] at h ⊢
  rw [wanted_put oj a oi.dst v p1] at h
  by_cases hw : Region.wanted oj (yielded ops a.tmps) = true
  · rw [if_pos hw] at h ⊢
    refine h.imp (fun h1 => ?_) (fun h2 => ⟨?_, h2.2⟩)
    · unfold Oper.wp at h1 ⊢
      rw [execOp_put oj hsj a oi.dst v p1] at h1
      cases hr : (execOp a.eval oj).run P w with
      | halt x w' =>
        rw [hr] at h1
        cases x with
        | panic u => exact hQ _ _ _ h1
        | _ => exact h1
      | ok n w' =>
        rw [hr] at h1
        cases n with
        | value u => exact ⟨st a hy u, sw a u w' h1⟩
        | skip => exact ⟨st a hy _, sw a _ w' h1⟩
        | defer d =>
          have hd : YieldsM P ops oi v { a with defers := d :: a.defers } w0 := hy.same rfl rfl
          refine ⟨st _ hd _, sw _ _ w' ?_⟩
          rw [← Act.put_defers]
          exact h1
        | enter f args =>
          refine Calls.mono h1 fun e w'' he => ?_
          cases e with
          | returned u => exact ⟨st a hy u, sw a u w'' he⟩
          | panicked c => exact hQ _ _ _ he
          | outgrown => exact he
        | row r args => exact Rows.mono h1 fun u w'' he => ⟨st a hy u, sw a u w'' he⟩
        | _ => exact h1
    · have q := h2.1
      unfold Oper.asks at q ⊢
      rw [execOp_put oj hsj a oi.dst v p1] at q
      exact q
  · rw [if_neg hw] at h ⊢
    exact ⟨st a hy _, sw a _ w h⟩
theorem anyM_first {i : Nat} {oi : Oper} {v : Value} (hi : ops[i]? = some oi) (hsel : ∀ (j : Nat) (o : Oper) cs b, ops[j]? = some o → o.op ≠ .select cs b) (hQ : ∀ c a w, Q (.panic c) (a.put oi.dst v) w → Q (.panic c) a w) :
    ∀ (f : Nat) (l : Array Bool) (a : Act) (w : World), (∀ j oj, ops[j]? = some oj → j ≠ i → l.getD j true = false → (∀ e ∈ oj.after, Region.binds md e = true → e.on ≠ i) → oi.apart ops oj = true) →
      i ∈ Region.ready md ops l → YieldsM P ops oi v a w → anyM P md ops Q f (l.setIfInBounds i true) (a.put oi.dst v) w → anyM P md ops Q (f + 1) l a w := by
  intro f
  induction f with
  | zero =>
    intro l a w _ hr hy H
    refine ⟨fun h0 => (by rw [h0] at hr; cases hr), fun j hj w2 e => ?_⟩
    by_cases hji : j = i
    · subst hji; exact hy.op hi e (fun w3 h3 => ⟨h3, anyM_later (e.trans h3) H⟩)
    · have h1 := ready_mono hj hji
      rw [H.1] at h1
      cases h1
  | succ f ih =>
    intro l a w hfree hr hy H
    refine ⟨fun h0 => (by rw [h0] at hr; cases hr), fun j hj w2 e => ?_⟩
    by_cases hji : j = i
    · subst hji; exact hy.op hi e (fun w3 h3 => ⟨h3, anyM_later (e.trans h3) H⟩)
    · obtain ⟨hun, oj, hoj, hall⟩ := mem_ready.1 hj
      have h0 := (mem_ready.1 hr).1
      have hnot : ∀ e ∈ oj.after, Region.binds md e = true → e.on ≠ i := fun e he hb heq => by
        have h1 := hall e he hb
        rw [heq, getD_both h0] at h1
        cases h1
      have h2 := wpOp_aside (w0 := w2) hoj (hfree j oj hoj hji hun hnot) (fun cs b => hsel i oi cs b hi) (fun cs b => hsel j oj cs b hoj) hQ (hy.later e) (H.2 j (ready_mono hj hji) w2 e)
      refine wpOp_mono (fun a' w' h3 => ⟨h3.2.1, ih (l.setIfInBounds j true) a' w' (fun k ok hk hki hku hno => hfree k ok hk hki ?_ hno) (ready_mono hr (Ne.symm hji)) (h3.1.later h3.2.1) ?_⟩) h2
      · by_cases hjk : j = k
        · subst hjk; exact hun
        · rwa [getD_set_ne true hjk] at hku
      · rw [Array.setIfInBounds_comm _ _ hji]
        exact h3.2.2
/-- Take number i first. -/
theorem anyM_take {i : Nat} {oi : Oper} {v : Value} {f : Nat} {l : Array Bool} {a : Act} {w : World} (hi : ops[i]? = some oi) (hs : Region.noSelect ops = true) (hf : Region.free md ops l i = true) (hr : (Region.ready md ops l).contains i = true)
    (hQ : ∀ c a w, Q (.panic c) (a.put oi.dst v) w → Q (.panic c) a w) (hy : YieldsM P ops oi v a w) (h : anyM P md ops Q f (l.setIfInBounds i true) (a.put oi.dst v) w) : anyM P md ops Q (f + 1) l a w :=
  anyM_first hi (Region.noSelect_spec hs) hQ f l a w (Region.free_spec hi hf) (by simpa using hr) hy h
/-- Number i alone may come up: it is carried out, and may make memory. -/
theorem anyM_only {i : Nat} {o : Oper} {f : Nat} {l : Array Bool} {a : Act} {w : World} (hr : Region.ready md ops l = [i]) (hi : ops[i]? = some o) (hw : Region.wanted o (yielded ops a.tmps) = true)
    (h : ∀ w2, Ext w w2 → ∃ v w3, (execOp a.eval o).run P w2 = .ok (.value v) w3 ∧ Ext w2 w3 ∧ anyM P md ops Q f (l.setIfInBounds i true) (a.put o.dst v) w3) : anyM P md ops Q (f + 1) l a w := by
  refine ⟨fun h0 => (by rw [hr] at h0; cases h0), fun j hj w2 e => ?_⟩
  rw [hr, List.mem_singleton] at hj
  subst hj
  obtain ⟨v, w3, h1, h2, h3⟩ := h w2 e
  unfold wpOp
  simp only [hi]
  rw [if_pos hw]
  refine .inl ?_
  unfold Oper.wp
  rw [h1]
  exact ⟨h2, h3⟩
theorem anyM_done {f : Nat} {l : Array Bool} {a : Act} {w : World} (hr : Region.ready md ops l = []) (h : ∀ w2, Ext w w2 → Q .normal a w2) : anyM P md ops Q f l a w := by
  cases f with
  | zero => exact ⟨hr, h⟩
  | succ f => exact ⟨fun _ => h, by rw [hr]; simp⟩
end
end Go.Proofs.YtddpfbeclmgndaaDoor
