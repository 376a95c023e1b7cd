/-
  A LETTER's BYTES: cut, told as texts; a row of one's own behind an empty one; whether a key's H is nought.
-/
import Derived.Test.YtoocglckhphepaaGcmV
import Derived.Test.YtoocglckhphepaaLetter
import Derived.Test.YtoocglckhphepaaAny
namespace Go.Proofs.Ytoocglckhphepaa
open Go Go.RowKit Go.BigFrame
set_option maxRecDepth 100000
set_option linter.unusedSimpArgs false
set_option maxHeartbeats 1000000 in
theorem cut_any (a : Option Addr) (n c : Nat) (_w : World) (hc : n ≤ c) (hm : c ≤ maxLen) : ∃ k, k ≤ 120 ∧ k ≤ n ∧ ∀ w' : World, Calls Try.prog 12 #[.slice a n c] w' fun e w'' => e = .returned (.slice a k c) ∧ w' = w'' := by
  have hm' : c ≤ 9223372036854775807 := by unfold maxLen at hm; omega
  by_cases hl : n ≤ 120
  · refine ⟨n, hl, Nat.le_refl _, fun w' => ?_⟩
    have hl5 : ¬ (120 : Int) < (n : Int) := by omega
    have hl6 : (n : Int) ≤ 120 := by omega
    have su := fun w' => run_upto_b w' a n n c (Nat.le_refl _) hc
    clear hm
    go_enter Try.func12, Try.ntmps12
    go_wp2_with fail
    go_ret
    exact ⟨rfl, rfl⟩
  · refine ⟨120, by omega, by omega, fun w' => ?_⟩
    have hl5 : (120 : Int) < (n : Int) := by omega
    have hl6 : ¬ (n : Int) ≤ 120 := by omega
    have su : ∀ w', (Instr.sliceAt 25 (.slice a n c) none (some (.int .i64 120)) none).run Try.prog w' = .ok (.slice a 120 c) w' := fun w' => run_upto_b w' a 120 n c (by omega) hc
    clear hm
    go_enter Try.func12, Try.ntmps12
    go_wp2_with fail
    go_ret
    exact ⟨rfl, rfl⟩
theorem in_less {w : World} {a : Option Addr} {n k : Nat} {f : Nat → BitVec 8} (h : BytesIn w a n f) (hk : k ≤ n) : BytesIn w a k f :=
  ⟨Nat.le_trans hk h.1, by
    rcases h.2 with h0 | ⟨b, o, e, hl, hc⟩
    · exact .inl (by omega)
    · exact .inr ⟨b, o, e, hl, fun i hi => hc i (by omega)⟩⟩
theorem conv_in (f : Nat → BitVec 8) (a : Option Addr) (m c : Nat) (w : World) (h : BytesIn w a m f) :
    (convert 25 9 (.slice a m c)).run Try.prog w = .ok (.string (strOf f m)) w := by
  rcases h.2 with rfl | ⟨b, o, rfl, _, hc⟩
  · have h1 : Try.prog.underlying 25 = some (.slice 5) := by kernel_rfl
    have h2 : Try.prog.underlying 9 = some .string := by kernel_rfl
    have h3 : Try.prog.underlying 5 = some (.int .u8) := by kernel_rfl
    cases a with
    | none =>
      simp [convert, run_underlying h1, run_underlying h2, run_underlying h3, Sem.run_bind]
      rfl
    | some x =>
      have h := run_convert_bytes_back (P := Try.prog) w 25 9 5 x c [] (by kernel_rfl) (by kernel_rfl) (by kernel_rfl) (fun j hj => by simp at hj)
      exact h
  · exact conv_str f b o m c w hc
theorem none_any (w : World) : Calls Try.prog 10 #[] w fun e w' => e = .returned (.pointer none) ∧ w = w' := by
  go_enter Try.func10, Try.ntmps10
  go_wp2_with fail
  go_ret
  exact ⟨rfl, rfl⟩
set_option linter.unusedVariables false
theorem Own.asMine {B n : Nat} {v : Value} {f : Nat → BitVec 8} {w : World} (h : Own B v n f w) : ∃ a c, v = .slice a n c ∧ n ≤ c ∧ c ≤ maxLen ∧ BytesIn w a n f ∧ (∀ y, a = some y → B ≤ y.block) ∧
    (0 < n → ∃ g cur, a = some ⟨g, 0, none⟩ ∧ w.heap[g]? = some (.cells cur 5 (0, 0)) ∧ n ≤ cur.size) := by
  rcases h.row.2 with ⟨rfl, hn⟩ | ⟨g, cap, cur, rfl, hB, hg, hnc, hcm, hcs, ht⟩
  · have hn0 : n = 0 := by omega
    subst hn0
    exact ⟨none, 0, rfl, Nat.le_refl _, Nat.zero_le _, ⟨Nat.zero_le _, .inl rfl⟩, fun y e => (by cases e), fun h => by omega⟩
  · refine ⟨some ⟨g, 0, none⟩, cap, rfl, hnc, hcm, ⟨Nat.le_trans hnc hcm, ?_⟩, fun y e => by injection e with e; subst e; exact hB, fun _ => ⟨g, cur, rfl, hg, by omega⟩⟩
    by_cases h0 : n = 0
    · exact .inl h0
    · obtain ⟨g', cap', e, h1, h2, h3⟩ := h.bytesIn (by omega)
      injection e with e1 e2 e3
      rcases h3.2 with h4 | h4
      · exact .inl h4
      · rw [← e1] at h4
        exact .inr h4
theorem run_append_fresh {B m k : Nat} {x : Value} {f g : Nat → BitVec 8} {w : World} {tx : TypeId} (ty : TypeId) (h : Own B (.slice (some ⟨k, 0, none⟩) 0 0) 0 f w) (hs : Src Try.prog 1 tx x m (firsts g m) w) (hm : m ≤ 200000000000000) :
    ∃ v' w', (Builtin.append_ #[25, tx] ty #[.slice (some ⟨k, 0, none⟩) 0 0, x]).run Try.prog w = .ok v' w' ∧ Own B v' m g w' ∧ Below w.heap.size w w' := by
  obtain ⟨i, hi, hz, hsz, hby⟩ := info_u8'
  have hs' : Src Try.prog i.size tx x m (firsts g m) w := by rw [hsz]; exact hs
  by_cases h0 : m = 0
  · subst h0
    exact ⟨_, w, run_append_nothing (P := Try.prog) w 25 tx ty 5 i under_bytes hi _ 0 0 (Nat.le_refl _) x hs', h.congr (fun j hj => by omega), Below.refl _ _⟩
  · have hm63 : 0 + m ≤ maxLen := by unfold maxLen; omega
    have hold : (Builtin.firstCells i.size 0 (.slice (some ⟨k, 0, none⟩) 0 0)).run Try.prog w.drew = .ok ([] : List Value).toArray w.drew := run_firstCells_some w.drew i.size 0 _ 0 0 [] (by simp) (fun j v h => by simp at h)
    have hr := run_append_grow_src (P := Try.prog) w 25 tx ty 5 i _ under_bytes hi hz (some ⟨k, 0, none⟩) 0 0 [] hold x m (firsts g m) hs' (by omega) (by omega) (growslice_fits_wide (by omega) (by rw [hby]; omega))
    rw [Nat.zero_add] at hr
    refine ⟨_, _, hr, ⟨⟨by rw [firsts_len, Nat.mul_one], .inr ⟨w.heap.size, _, _, rfl, h.base, heap_alloc_new w.drew _, grownCap_ge _ _ _ _, grownCap_le_maxLen _ _ _ _ (by rw [Nat.zero_add] at hm63; exact hm63), ?_, ?_⟩⟩, by simp; exact Nat.le_succ_of_le h.base⟩, (Below.refl w.heap.size w).drew.alloc (by exact Nat.le_refl _) _⟩
    · have hge := grownCap_ge w m 0 5
      simp only [Array.size_append, List.size_toArray, size_zeroCells, List.length_append, firsts_len, Value.cells, List.nil_append]
      simp
      omega
    · simp only [Array.toList_append, Nat.mul_one, List.nil_append]
      have : (firsts g m).length = m := firsts_len _ _
      rw [List.take_left' this]
theorem exec_append_fresh {o : Oper} {a : Act} {w : World} (s x : Operand) (tx : TypeId) (ho : o.op = .call { callee := .builtin .append, args := #[s, x], argTypes := #[25, tx] })
    {B m k : Nat} {xv : Value} {f g : Nat → BitVec 8} (hs : a.eval s = .slice (some ⟨k, 0, none⟩) 0 0) (hx : a.eval x = xv) (h : Own B (.slice (some ⟨k, 0, none⟩) 0 0) 0 f w) (hsrc : Src Try.prog 1 tx xv m (firsts g m) w) (hnm : m ≤ 200000000000000) :
    ∃ v' w', (execOp a.eval o).run Try.prog w = .ok (.value v') w' ∧ Own B v' m g w' ∧ Below w.heap.size w w' := by
  obtain ⟨v', w', hr, h2, h3⟩ := run_append_fresh o.type h hsrc hnm
  refine ⟨v', w', ?_, h2, h3⟩
  unfold execOp
  simp only [ho, resolve, invoke, builtin, Sem.run_bind, Sem.run_pure, Result.andThen_ok, List.map_toArray, List.map_cons, List.map_nil, hs, hx, hr]
theorem exec_fresh_then {R : Value → World → Prop} {o : Oper} {a : Act} {w : World} (s x : Operand) (tx : TypeId) (ho : o.op = .call { callee := .builtin .append, args := #[s, x], argTypes := #[25, tx] })
    {B m k : Nat} {xv : Value} {f g : Nat → BitVec 8} (hs : a.eval s = .slice (some ⟨k, 0, none⟩) 0 0) (hx : a.eval x = xv) (h : Own B (.slice (some ⟨k, 0, none⟩) 0 0) 0 f w) (hsrc : Src Try.prog 1 tx xv m (firsts g m) w) (hnm : m ≤ 200000000000000)
    (hk : ∀ v' w', Own B v' m g w' → Below w.heap.size w w' → R v' w') : ∃ v w3, (execOp a.eval o).run Try.prog w = .ok (.value v) w3 ∧ Ext w w3 ∧ R v w3 := by
  obtain ⟨v', w', h1, h2, h3⟩ := exec_append_fresh s x tx ho hs hx h hsrc hnm
  exact ⟨v', w', h1, h3, hk v' w' h2 h3⟩
theorem ext_below {B : Nat} {w0 w w2 : World} (h : Ext w w2) (hb : Below B w0 w) (hB : B ≤ w.heap.size) : Below B w0 w2 := hb.trans (Below.mono (show Below w.heap.size w w2 from h) hB)
/-- The test's nonce. -/
def digs12 (i : Nat) : BitVec 8 := match i with | 0 => 49#8 | 1 => 50#8 | 2 => 51#8 | 3 => 52#8 | 4 => 53#8 | 5 => 54#8 | 6 => 55#8 | 7 => 56#8 | 8 => 57#8 | 9 => 48#8 | 10 => 49#8 | _ => 50#8
theorem digs_text : (⟨#[49, 50, 51, 52, 53, 54, 55, 56, 57, 48, 49, 50]⟩ : ByteArray) = strOf digs12 12 := by decide
theorem x_text : (⟨#[120]⟩ : ByteArray) = strOf (fun _ => 120#8) 1 := by decide
theorem none_text : (⟨#[]⟩ : ByteArray) = strOf (fun _ => 0#8) 0 := by decide
theorem mul2_zero (x : W2) : W2.mul x ⟨0#64, 0#64⟩ = ⟨0#64, 0#64⟩ := by
  apply poly_inj
  rw [mul_poly, poly_zero, GF.mul_zero]
theorem seal_zero (ks : Nat → BitVec 32) (f g g' xs : Nat → BitVec 8) (n n' : Nat) : strOf (sealF ks ⟨0#64, 0#64⟩ f g n xs 0) 16 = strOf (sealF ks ⟨0#64, 0#64⟩ f g' n' xs 0) 16 := by
  have e : sealF ks ⟨0#64, 0#64⟩ f g n xs 0 = sealF ks ⟨0#64, 0#64⟩ f g' n' xs 0 := by
    unfold sealF tagW
    rw [mul2_zero, mul2_zero]
  rw [e]
set_option maxHeartbeats 4000000 in
theorem zero_any (key : Nat → BitVec 8) (w : World) (h0 : hOf (sched key) = ⟨0#64, 0#64⟩) :
    Calls Try.prog 16 #[.agg (b16 key)] w fun e w' => e = .returned (.bool true) ∧ Below w.heap.size w w' := by
  have S1 := fun w' => sealD_ok key digs12 (fun _ => 0#8) (fun _ => 0#8) 0 0 w' (by omega) (by omega)
  have S2 := fun w' => sealD_ok key digs12 (fun _ => 120#8) (fun _ => 0#8) 1 0 w' (by omega) (by omega)
  rw [h0, seal_zero (sched key) digs12 (fun _ => 0#8) (fun _ => 120#8) (fun _ => 0#8) 0 1] at S1
  rw [h0] at S2
  rw [← digs_text, ← none_text] at S1
  rw [← digs_text, ← none_text, ← x_text] at S2
  generalize strOf (sealF (sched key) ⟨0#64, 0#64⟩ digs12 (fun _ => 120#8) 1 (fun _ => 0#8) 0) (0 + 16) = OT at *
  have CK := Lib.hid (fun (w' : World) (k : Nat) (h : w'.heap[k]? = some (.cells (b16 key) 22 (0, 0))) => conv_str key k 0 16 16 w' (fun i hi => by rw [cell_of_row _ _ _ _ _ _ h, Nat.zero_add]; exact b16_get key i hi))
  generalize strOf key 16 = KT at *
  have S1 := Lib.hid S1
  have S2 := Lib.hid S2
  go_enter Try.func16, Try.ntmps16
  go_upto_region 1 with (fail)
  have row := heap_alloc_last w (.cells (b16 key) 22)
  have bel := (Below.refl w.heap.size w).alloc (Nat.le_refl _) (.cells (b16 key) 22)
  generalize w.alloc _ = wc at *
  have cv := CK.out wc _ row
  go_wp2_with fail
  refine (S1.out _).mono ?_
  rintro e w1 ⟨rfl, hb1⟩
  have cv := CK.out w1 _ ((hb1.block _ (lt_row row)).trans row)
  have B1 := Lib.hid (bel.trans (hb1.mono bel.size))
  clear hb1
  go_wp2_with fail
  refine (S2.out _).mono ?_
  rintro e w2 ⟨rfl, hb2⟩
  have B2 := Lib.hid (B1.out.trans (hb2.mono B1.out.size))
  clear hb2 cv
  go_wp2_with fail
  go_ret
  exact ⟨rfl, B2.out⟩
end Go.Proofs.Ytoocglckhphepaa
