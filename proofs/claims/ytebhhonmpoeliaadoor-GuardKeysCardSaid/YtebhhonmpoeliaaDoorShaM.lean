/-
  sha: what the laws lean on: sums beside sums, bytes as texts.
-/
import Derived.Test.YtebhhonmpoeliaaDoorShaJ
import Derived.Test.YtebhhonmpoeliaaDoorEq
import Derived.Test.YtebhhonmpoeliaaDoorOwn
import Derived.Test.YtebhhonmpoeliaaDoorOpenB
namespace Go.Proofs.YtebhhonmpoeliaaDoor
open Go Go.RowKit Go.BigFrame
set_option linter.unusedSimpArgs false
set_option linter.unusedVariables false
theorem eq32 (p q : Nat → BitVec 8) (w : World) : (Op.equalIn 10000 42 (.agg (bytesA p 32)) (.agg (bytesA q 32))).run Tryd.prog w = .ok (allEq p q 32) w :=
  run_eq_bytes (P := Tryd.prog) (t := 42) (e := 5) (n := 32) p q w (by kernel_rfl) (by kernel_rfl) (by kernel_rfl) (by kernel_rfl) (by kernel_rfl)
theorem eq32_same (p : Nat → BitVec 8) (w : World) : (Op.equalIn 10000 42 (.agg (bytesA p 32)) (.agg (bytesA p 32))).run Tryd.prog w = .ok true w := by
  rw [eq32, (allEq_iff p p 32).2 (fun _ _ => rfl)]
theorem conv_in (f : Nat → BitVec 8) (a : Option Addr) (m c : Nat) (w : World) (h : BytesIn w a m f) :
    (convert 40 9 (.slice a m c)).run Tryd.prog w = .ok (.string (strOf f m)) w := by
  rcases h.2 with rfl | ⟨b, o, rfl, _, hc⟩
  · have h1 : Tryd.prog.underlying 40 = some (.slice 5) := by kernel_rfl
    have h2 : Tryd.prog.underlying 9 = some .string := by kernel_rfl
    have h3 : Tryd.prog.underlying 5 = some (.int .u8) := by kernel_rfl
    cases a with
    | none =>
      simp [convert, run_underlying h1, run_underlying h2, run_underlying h3, Sem.run_bind]
      rfl
    | some x =>
      have h := run_convert_bytes_back (P := Tryd.prog) w 40 9 5 x c [] (by kernel_rfl) (by kernel_rfl) (by kernel_rfl) (fun j hj => by simp at hj)
      exact h
  · exact conv_str f b o m c w hc
theorem run_upto (w : World) (a : Option Addr) (k m c : Nat) (hk : k ≤ m) (hm : m ≤ c) : (Instr.sliceAt 40 (.slice a m c) none (some (.int .i64 (k : Int))) none).run Tryd.prog w = .ok (.slice a k c) w := by
  have hkc : k ≤ c := Nat.le_trans hk hm
  have hu : Tryd.prog.underlying 40 = some (.slice (Tryd.prog.elem 40)) := by kernel_rfl
  rw [run_sliceAt_slice (t := 40) (h := hu), run_slice_any (t := 40) (ht := hu)]
  have h0 : (0 : Int) ≤ (k : Int) := by omega
  have h1 : (k : Int) ≤ (c : Int) := by omega
  simp [Instr.sliceBounds, go_sem, h0, h1]
theorem bytesIn_upto {w : World} {a : Option Addr} {k m : Nat} {p : Nat → BitVec 8} (h : BytesIn w a m p) (hk : k ≤ m) : BytesIn w a k p := by
  refine ⟨Nat.le_trans hk h.1, ?_⟩
  rcases h.2 with h0 | ⟨b, o, e, hb, hc⟩
  · exact .inl (by omega)
  · exact .inr ⟨b, o, e, hb, fun i hi => hc i (by omega)⟩
/-- A slice of one's own as bytes that lie somewhere. -/
theorem Own.asBytes {B n : Nat} {v : Value} {f : Nat → BitVec 8} {w : World} (h : Own B v n f w) : ∃ a c, v = .slice a n c ∧ n ≤ c ∧ c ≤ maxLen ∧ BytesIn w a n f := by
  by_cases hn : 0 < n
  · obtain ⟨g, cap, e, h1, h2, h3⟩ := h.bytesIn hn
    exact ⟨_, _, e, h1, h2, h3⟩
  · obtain rfl : n = 0 := by omega
    rcases h.row.2 with ⟨rfl, _⟩ | ⟨g, cap, cur, rfl, _, _, h1, h2, _⟩
    · exact ⟨none, 0, rfl, Nat.le_refl _, Nat.zero_le _, Nat.zero_le _, .inl rfl⟩
    · exact ⟨some ⟨g, 0, none⟩, cap, rfl, Nat.zero_le _, h2, Nat.zero_le _, .inl rfl⟩
theorem joinb_parts (f : Nat → BitVec 8) (k : Nat) : joinb f k (fun i => f (k + i)) = f := by
  funext i
  unfold joinb
  by_cases h : i < k
  · rw [if_pos h]
  · rw [if_neg h]
    show f (k + (i - k)) = f i
    congr 1; omega
theorem wpList_append_bytes_g {ops : Array Oper} {rest : List Oper} {o : Oper} {a : Act} {w : World} {Q : Exit → Act → World → Prop} (hw : Region.wanted o (yielded ops a.tmps) = true) (s x : Operand) (tx : TypeId)
    (ho : o.op = .call { callee := .builtin .append, args := #[s, x], argTypes := #[40, tx] })
    {B n m : Nat} {v xv : Value} {f g : Nat → BitVec 8} (hs : a.eval s = v) (hx : a.eval x = xv) (h : Own B v n f w) (hsrc : Src Tryd.prog 1 tx xv m (firsts g m) w) (hnm : n + m ≤ 200000000000000)
    (hk : ∀ v' w', Own B v' (n + m) (joinb f n g) w' → GrownV w w' v v' → wpList Tryd.prog ops Q rest (a.put o.dst v') w') : wpList Tryd.prog ops Q (o :: rest) a w :=
  wpList_step fun K hK => by
    rw [if_pos hw]
    obtain ⟨v', w', hr, h2, h3⟩ := run_append_bytes o.type h hsrc hnm
    unfold Oper.wp execOp
    simp only [ho, resolve, invoke, builtin, Sem.run_bind, Sem.run_pure, Result.andThen_ok, List.map_toArray, List.map_cons, List.map_nil, hs, hx, hr]
    exact hK _ _ (hk v' w' h2 h3)
end Go.Proofs.YtebhhonmpoeliaaDoor
