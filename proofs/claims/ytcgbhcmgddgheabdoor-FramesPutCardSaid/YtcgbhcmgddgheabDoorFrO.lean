/-
  FRAMES' READER: an Ack's spans.
-/
import Derived.Test.YtcgbhcmgddgheabDoorFrN
namespace Go.Proofs.YtcgbhcmgddgheabDoor
open Go Go.RowKit Go.BigFrame
set_option linter.unusedSimpArgs false
set_option linter.unusedVariables false
set_option maxRecDepth 100000
def ST : TypeId := 50
def spC (A : List (Int × Int)) : List Value := A.flatMap fun x => [.int .i64 x.1, .int .i64 x.2]
theorem spC_snoc (A : List (Int × Int)) (x : Int × Int) : spC (A ++ [x]) = spC A ++ [.int .i64 x.1, .int .i64 x.2] := by unfold spC; rw [List.flatMap_append]; simp
theorem spC_len : ∀ A : List (Int × Int), (spC A).length = A.length * 2
  | [] => rfl
  | x :: l => by
    have h := spC_len l
    unfold spC at h ⊢
    rw [List.flatMap_cons, List.length_append, h, List.length_cons]
    simp; omega
theorem spC_at : ∀ (A : List (Int × Int)) (j : Nat) (h : j < A.length), (spC A)[j * 2]? = some (.int .i64 A[j].1) ∧ (spC A)[j * 2 + 1]? = some (.int .i64 A[j].2)
  | x :: l, 0, _ => ⟨rfl, rfl⟩
  | x :: l, j + 1, h => by
    obtain ⟨h1, h2⟩ := spC_at l j (by simpa using h)
    unfold spC at h1 h2 ⊢
    rw [List.flatMap_cons, show (j + 1) * 2 = j * 2 + 2 by omega, show j * 2 + 2 + 1 = j * 2 + 1 + 2 by omega]
    exact ⟨h1, h2⟩
theorem owns_spans {w : World} {B : Nat} {v : Value} {A : List (Int × Int)} (h : w.ownsRow B ST 2 v A.length (spC A)) : SpansIn w v A := by
  rcases h.2 with ⟨hv, h0⟩ | ⟨g, cap, cur, hv, hb', hg, h1, h2, h3, h4⟩
  · obtain rfl : A = [] := List.length_eq_zero_iff.1 h0
    rw [hv]; exact SpansIn.none w
  · rw [hv]
    refine ⟨⟨_, _, rfl, ⟨h1, h2⟩, .inr ⟨g, 0, rfl, lt_row hg, fun i hi => ?_⟩⟩⟩
    obtain ⟨q1, q2⟩ := spC_at A i hi
    rw [cell_of_row _ _ _ _ _ _ hg, cell_of_row _ _ _ _ _ _ hg, Nat.zero_add, ← q1, ← q2, ← h4, List.getElem?_take, if_pos (by omega), List.getElem?_take, if_pos (by omega)]
    simp
theorem info_span : ∃ i0, Tryd.prog.info? 50 = some i0 ∧ i0.zero = some (.agg #[.int .i64 0, .int .i64 0]) ∧ i0.size = 2 ∧ i0.bytes ≤ 1000 := by
  have h : (Tryd.prog.info? 50).map (fun i => (i.zero, i.size, decide (i.bytes ≤ 1000))) = some (some (.agg #[.int .i64 0, .int .i64 0]), 2, true) := by kernel_rfl
  cases hq : Tryd.prog.info? 50 with
  | none => rw [hq] at h; cases h
  | some i =>
    rw [hq] at h
    simp only [Option.map_some, Option.some.injEq, Prod.mk.injEq, decide_eq_true_eq] at h
    exact ⟨i, rfl, h.1, h.2.1, h.2.2⟩
theorem step_append_span {o : Oper} {a : Act} {w : World} {K : Act → World → Prop} {Q : Exit → Act → World → Prop} (s x : Operand)
    (ho : o.op = .call { callee := .builtin .append, args := #[s, x], argTypes := #[31, 31] })
    (B : Nat) (v : Value) (A : List (Int × Int)) (hs : a.eval s = v) (hown : w.ownsRow B ST 2 v A.length (spC A)) (g : Nat) (y1 y2 : Int) (hx : a.eval x = .slice (some ⟨g, 0, none⟩) 1 1)
    (hg : w.heap[g]? = some (.cells #[.int .i64 y1, .int .i64 y2] 50 (0, 0))) (hA : A.length ≤ 1000) (hbase : B ≤ w.heap.size)
    (h : ∀ v' w', w'.ownsRow B ST 2 v' (A.length + 1) (spC (A ++ [(y1, y2)])) → w.grownBy w' v.ownBlock → K (a.put o.dst v') w') : o.wp Tryd.prog a w K Q := by
  obtain ⟨i0, hi0, hz0, hz1, hz2⟩ := info_span
  have news : ∀ j u, ([.int .i64 y1, .int .i64 y2] : List Value)[j]? = some u → w.cell? (Addr.add ⟨g, 0, none⟩ j) = some u := fun j u hj => by
    rw [show Addr.add ⟨g, 0, none⟩ j = ⟨g, j, none⟩ by simp [Addr.add]; exact fun h => h.symm]
    rw [cell_of_row _ _ _ _ _ _ hg]
    simpa using hj
  refine wp_append_own w s x 31 ho B ST i0 _ 2 i0.bytes Tryd.underlying31 hi0 hz0 hz1 rfl rfl (by decide) v A.length _ hs hown ⟨g, 0, none⟩ 1 1 _ hx rfl news (List.all_eq_true.mp rfl) (by unfold maxLen; omega) (by have := Nat.mul_le_mul (show A.length + 1 ≤ 1001 by omega) hz2; omega) hbase ?_
  intro v' w' h1 h2 _
  exact h v' w' (by rw [spC_snoc]; exact h1) h2
/-- What changes two blocks alone. -/
structure Chg2 (b c : Nat) (w w' : World) : Prop where
  os : w'.os = w.os
  tape : w'.tape = w.tape
  output : w'.output = w.output
  size : w.heap.size ≤ w'.heap.size
  block : ∀ k, k < w.heap.size → k ≠ b → k ≠ c → w'.heap[k]? = w.heap[k]?
theorem Chg2.refl (b c : Nat) (w : World) : Chg2 b c w w := ⟨rfl, rfl, rfl, Nat.le_refl _, fun _ _ _ _ => rfl⟩
theorem Chg2.trans {b c : Nat} {w w1 w2 : World} (h : Chg2 b c w w1) (k : Chg2 b c w1 w2) : Chg2 b c w w2 :=
  ⟨k.os.trans h.os, k.tape.trans h.tape, k.output.trans h.output, Nat.le_trans h.size k.size, fun i hi hb hc => (k.block i (Nat.lt_of_lt_of_le hi h.size) hb hc).trans (h.block i hi hb hc)⟩
theorem Chg.left {b c : Nat} {w w' : World} (h : Chg b w w') : Chg2 b c w w' := ⟨h.os, h.tape, h.output, h.size, fun k hk hb _ => h.block k hk hb⟩
theorem Chg.right {b c : Nat} {w w' : World} (h : Chg c w w') : Chg2 b c w w' := ⟨h.os, h.tape, h.output, h.size, fun k hk _ hc => h.block k hk hc⟩
theorem Chg2.of_below {b c : Nat} {w w' : World} (h : Below w.heap.size w w') : Chg2 b c w w' := (Chg.of_below h : Chg b w w').left
theorem Chg2.drew {b c : Nat} {w w' : World} (h : Chg2 b c w w') : Chg2 b c w w'.drew := ⟨h.os, h.tape, h.output, h.size, h.block⟩
theorem Chg2.below {b c B : Nat} {w w' : World} (h : Chg2 b c w w') (hb : B ≤ b) (hc : B ≤ c) (hs : B ≤ w.heap.size) : Below B w w' := ⟨h.os, h.tape, h.output, h.size, fun k hk => h.block k (by omega) (by omega) (by omega)⟩
theorem own_form {w : World} {B : Nat} {T : TypeId} {z : Nat} {v : Value} {n : Nat} {xs : List Value} (h : w.ownsRow B T z v n xs) : ∃ a c, v = .slice a n c := by
  rcases h.2 with ⟨hv, h0⟩ | ⟨g, cap, cur, hv, _⟩
  · exact ⟨none, 0, by rw [hv, h0]⟩
  · exact ⟨_, _, hv⟩
theorem own_eq {g n c k : Nat} (e : (Value.slice (some ⟨g, 0, none⟩) n c).ownBlock = some k) : g = k := Option.some.inj e
theorem BytesIn.chg2 {b c : Nat} {w w' : World} {a : Option Addr} {n : Nat} {f : Nat → BitVec 8} (h : BytesIn w a n f) (hc : Chg2 b c w w') (ha : ∀ x, a = some x → x.block ≠ b) (ha2 : ∀ x, a = some x → x.block ≠ c) : BytesIn w' a n f := by
  refine ⟨h.1, ?_⟩
  rcases h.2 with h0 | ⟨k, off, rfl, hk, hcell⟩
  · exact .inl h0
  · exact .inr ⟨k, off, rfl, Nat.lt_of_lt_of_le hk hc.size, fun i hi => (World.cell?_of_block (w := w) (h := hc.block k hk (ha ⟨k, off, none⟩ rfl) (ha2 ⟨k, off, none⟩ rfl))).trans (hcell i hi)⟩
theorem Rd.other {w w' : World} {b c : Nat} {a : Option Addr} {len cap : Nat} {f : Nat → BitVec 8} {p : Nat} {e : Int} (h : Rd w b a len cap f p e) (hc : Chg c w w') (hbc : b ≠ c) (hoff : ∀ x, a = some x → x.block ≠ c) : Rd w' b a len cap f p e :=
  ⟨hc.row hbc h.row, h.inB.chg hc hoff, h.lc, h.cm, h.pl, h.off⟩
def rAcks (F : Nat → BitVec 8) (len : Nat) : Nat → List (Int × Int) → At → List (Int × Int) × At
  | 0, A, s => (A, s)
  | n + 1, A, s =>
    let fr := (A.getLastD (0, 0)).1
    let r1 := rMost F len (fr - 2) s
    let r2 := rSpan F len (fr - 2 - (r1.1 : Int)) r1.2
    rAcks F len n (A ++ [r2.1]) r2.2
def rAckF (F : Nat → BitVec 8) (len : Nat) (s : At) : Int × List (Int × Int) × At :=
  let r1 := rNum F len s
  let r2 := rNum F len r1.2
  let r3 := rMost F len 63 r2.2
  let r4 := rSpan F len (r1.1 : Int) r3.2
  ((r2.1 : Int), rAcks F len r3.1 [r4.1] r4.2)
theorem rNum_lt (F : Nat → BitVec 8) (len : Nat) (s : At) : (rNum F len s).1 < 9223372036854775808 := by
  unfold rNum
  split
  · split
    · exact getV_lt _ _
    · exact Nat.two_pow_pos 63
  · exact Nat.two_pow_pos 63
/-- What acks leaves: the reader behind what was read, the frame with its number and its spans. -/
def AckPost (b fb : Nat) (a : Option Addr) (len cap : Nat) (F : Nat → BitVec 8) (f : Fr) (R : Int × List (Int × Int) × At) (w : World) (x : Ending) (w' : World) : Prop :=
  x = .returned (.tuple #[]) ∧ ∃ v', Rd w' b a len cap F R.2.2.p R.2.2.e ∧ w'.heap[fb]? = some (.cells (({ f with N := R.1, A := R.2.1 } : Fr).cells v') 33 (0, 0)) ∧ SpansIn w' v' R.2.1 ∧ Chg2 b fb w w' ∧ ∀ g, v'.ownBlock = some g → w.heap.size ≤ g
theorem SpansIn.chg {w w' : World} {b : Nat} {v : Value} {A : List (Int × Int)} (h : SpansIn w v A) (g : Chg b w w') (hne : v.ownBlock ≠ some b) : SpansIn w' v A := by
  obtain ⟨a, c, rfl, hc, hat⟩ := h.at_
  refine ⟨⟨a, c, rfl, hc, ?_⟩⟩
  rcases hat with h0 | ⟨k, o, rfl, hl, hcell⟩
  · exact .inl h0
  · have hkb : k ≠ b := fun e => hne (by rw [← e]; rfl)
    exact .inr ⟨k, o, rfl, Nat.lt_of_lt_of_le hl g.size, fun i hi => ⟨(g.cell (p := ⟨k, o + i * 2, Option.none⟩) hl hkb).trans (hcell i hi).1, (g.cell (p := ⟨k, o + i * 2 + 1, Option.none⟩) hl hkb).trans (hcell i hi).2⟩⟩
set_option maxHeartbeats 16000000 in
theorem acks_any {w : World} {b fb : Nat} {a : Option Addr} {len cap : Nat} {F : Nat → BitVec 8} {p : Nat} {e : Int} (h : Rd w b a len cap F p e) (f : Fr) (v : Value) (hf : w.heap[fb]? = some (.cells (f.cells v) 33 (0, 0))) (hne : b ≠ fb) (hoff : ∀ x, a = some x → x.block ≠ fb) :
    Calls Tryd.prog 39 #[.pointer (some ⟨b, 0, none⟩), .pointer (some ⟨fb, 0, none⟩)] w (AckPost b fb a len cap F f (rAckF F len ⟨p, e⟩) w) := by
  have HNE := Lib.hid hne
  have HOFF := Lib.hid hoff
  obtain ⟨RR, hRR⟩ : ∃ R, rAckF F len ⟨p, e⟩ = R := ⟨_, rfl⟩
  rw [hRR]
  unfold rAckF at hRR
  have n1 := number_any h
  have v1 := rNum_lt F len ⟨p, e⟩
  obtain ⟨R1, hR1⟩ : ∃ R, rNum F len ⟨p, e⟩ = R := ⟨_, rfl⟩
  rw [hR1] at n1 v1 hRR
  obtain ⟨t, p1, e1⟩ := R1
  dsimp only at n1 v1 hRR
  have v2 := rNum_lt F len ⟨p1, e1⟩
  obtain ⟨R2, hR2⟩ : ∃ R, rNum F len ⟨p1, e1⟩ = R := ⟨_, rfl⟩
  rw [hR2] at v2 hRR
  obtain ⟨N2, p2, e2⟩ := R2
  dsimp only at v2 hRR
  have v3 := rMost_le F len 63 ⟨p2, e2⟩
  obtain ⟨R3, hR3⟩ : ∃ R, rMost F len 63 ⟨p2, e2⟩ = R := ⟨_, rfl⟩
  rw [hR3] at v3 hRR
  obtain ⟨O3, p3, e3⟩ := R3
  dsimp only at v3 hRR
  obtain ⟨R4, hR4⟩ : ∃ R, rSpan F len (t : Int) ⟨p3, e3⟩ = R := ⟨_, rfl⟩
  rw [hR4] at hRR
  obtain ⟨⟨y1, y2⟩, p4, e4⟩ := R4
  dsimp only at hRR
  have hy : y2 = (t : Int) ∧ 0 ≤ y1 ∧ y1 ≤ (t : Int) := by
    have hle := rMost_le F len (t : Int) ⟨p3, e3⟩
    unfold rSpan at hR4
    injection hR4 with h1 h2
    injection h1 with h1 h3
    subst h3
    refine ⟨rfl, ?_, ?_⟩
    · rw [← h1]; omega
    · rw [← h1]; omega
  have N1 := Lib.hid n1
  have E2 := Lib.hid hR2
  have E3 := Lib.hid hR3
  have E4 := Lib.hid hR4
  have HR := Lib.hid hRR
  have H0 := Lib.hid h
  have HF := Lib.hid hf
  clear n1 hR1 hR2 hR3 hR4 hRR h hf hne hoff
  obtain ⟨K, S, O, N, C, Fi, D, X, A0⟩ := f
  dsimp only [Fr.cells] at *
  unfold frC at *
  go_enter Tryd.func39, Tryd.ntmps39
  go_wp2_with fail
  with_reducible refine N1.out.mono ?_
  rintro x w1 ⟨rfl, h1, g1⟩
  have n2 := number_any h1
  rw [E2.out] at n2
  dsimp only at n2
  have N2' := Lib.hid n2
  have G1 := Lib.hid (g1.left : Chg2 b fb w w1)
  have F1 := Lib.hid (g1.row HNE.out.symm HF.out)
  clear n2 h1 g1 N1
  go_wp2_with fail
  with_reducible refine N2'.out.mono ?_
  rintro x w2 ⟨rfl, h2, g2⟩
  have f2 := g2.row HNE.out.symm F1.out
  have fz : w2.frozen? ⟨fb, 3, none⟩ = false := frozen_of_row _ _ _ _ _ f2
  have c3 := (cells9 f2).2.2.2.1
  have rs := rowSet_cell w2 fb 3 _ _ (.int .i64 (N2 : Int)) f2
  have RS := Lib.hid rs
  have H2 := Lib.hid (h2.other rs.chg HNE.out HOFF.out)
  have G2 := Lib.hid ((G1.out.trans g2.left).trans rs.chg.right)
  clear h2 g2 f2 rs N2'
  go_upto_region 2 with (fail)
  clear c3 fz
  generalize w2.setCell _ _ = w3 at *
  have F3 := Lib.hid (show w3.heap[fb]? = some (.cells #[.int .i64 K, .int .i64 S, .int .i64 O, .int .i64 (N2 : Int), .int .i64 C, .bool Fi, .string D, .string X, v] 33 (0, 0)) from RS.out.row)
  have am := atMost_any H2.out 63
  rw [E3.out] at am
  dsimp only at am
  have AM := Lib.hid am
  clear am RS
  go_wp2_with fail
  with_reducible refine AM.out.mono ?_
  rintro x w4 ⟨rfl, h4, g4⟩
  have sp := spanTo_any h4 (t : Int) (by omega) (by omega)
  rw [E4.out] at sp
  dsimp only at sp
  have SP := Lib.hid sp
  have G4 := Lib.hid (G2.out.trans g4.left)
  have F4 := Lib.hid (g4.row HNE.out.symm F3.out)
  clear sp h4 g4 AM
  go_wp2_with fail
  with_reducible refine SP.out.mono ?_
  rintro x w5 ⟨rfl, h5, g5⟩
  have hsz5 : w.heap.size ≤ w5.heap.size := Nat.le_trans G4.out.size g5.size
  have f5 := g5.row HNE.out.symm F4.out
  have fz : w5.frozen? ⟨fb, 8, none⟩ = false := frozen_of_row _ _ _ _ _ f5
  have c8 := (cells9 f5).2.2.2.2.2.2.2.2
  have fbl : fb < w5.heap.size := lt_row f5
  have rs := rowSet_cell w5 fb 8 _ _ (.slice (some ⟨w5.heap.size, 0, none⟩) 1 1) f5
  have hl := heap_alloc_last (w5.setCell ⟨fb, 8, none⟩ (.slice (some ⟨w5.heap.size, 0, none⟩) 1 1)) (.cells #[.int .i64 y1, .int .i64 (t : Int)] 50)
  have al := (Below.refl _ (w5.setCell ⟨fb, 8, none⟩ (.slice (some ⟨w5.heap.size, 0, none⟩) 1 1))).alloc (Nat.le_refl _) (.cells #[.int .i64 y1, .int .i64 (t : Int)] 50)
  rw [rs.size] at hl
  have OW := Lib.hid (show ((w5.setCell ⟨fb, 8, none⟩ (.slice (some ⟨w5.heap.size, 0, none⟩) 1 1)).alloc (.cells #[.int .i64 y1, .int .i64 (t : Int)] 50)).ownsRow w.heap.size ST 2 (.slice (some ⟨w5.heap.size, 0, none⟩) 1 1) 1 (spC [(y1, (t : Int))]) from ⟨rfl, .inr ⟨w5.heap.size, 1, _, rfl, hsz5, hl, Nat.le_refl _, by decide, rfl, rfl⟩⟩)
  have H7 := Lib.hid ((h5.other rs.chg HNE.out HOFF.out).below al)
  have G7 := Lib.hid (((G4.out.trans g5.left).trans rs.chg.right).trans (Chg2.of_below al))
  have F7 := Lib.hid (show ((w5.setCell ⟨fb, 8, none⟩ (.slice (some ⟨w5.heap.size, 0, none⟩) 1 1)).alloc (.cells #[.int .i64 y1, .int .i64 (t : Int)] 50)).heap[fb]? = some (.cells #[.int .i64 K, .int .i64 S, .int .i64 O, .int .i64 (N2 : Int), .int .i64 C, .bool Fi, .string D, .string X, .slice (some ⟨w5.heap.size, 0, none⟩) 1 1] 33 (0, 0)) from (al.block _ (lt_row rs.row)).trans rs.row)
  clear h5 g5 f5 rs al SP hl
  go_upto_region 5 with (fail)
  clear c8 fz
  generalize World.alloc _ _ = w7 at *
  obtain ⟨hy2, hy0, hyt⟩ := hy
  subst hy2
  have hO63 : O3 ≤ 63 := by omega
  go_loopw [25] (fun s25 wr => ∃ (j : Nat) (A : List (Int × Int)) (v' : Value) (s : At), j ≤ O3 ∧ s25 = .int .i64 (j : Int) ∧ A.length = j + 1 ∧ (-(2 * (j : Int)) ≤ (A.getLastD (0, 0)).1 ∧ (A.getLastD (0, 0)).1 < 9223372036854775808) ∧ rAcks F len (O3 - j) A s = (RR.2.1, RR.2.2) ∧ Rd wr b a len cap F s.p s.e ∧ wr.heap[fb]? = some (.cells #[.int .i64 K, .int .i64 S, .int .i64 O, .int .i64 (N2 : Int), .int .i64 C, .bool Fi, .string D, .string X, v'] 33 (0, 0)) ∧ wr.ownsRow w.heap.size ST 2 v' A.length (spC A) ∧ Chg2 b fb w wr) (fun s25 _ => O3 - (intOf s25).toNat)
  case atStart => exact ⟨0, [(y1, (t : Int))], _, ⟨p4, e4⟩, by omega, rfl, rfl, ⟨by show -(2 * ((0 : Nat) : Int)) ≤ y1; omega, by show y1 < _; omega⟩, by rw [Nat.sub_zero, ← HR.out], H7.out, F7.out, OW.out, G7.out⟩
  case round =>
    obtain ⟨j, A, v', s, hj, rfl, hlen, ⟨hb1, hb2⟩, hack, hrd, hrow, hown, hchg⟩ := hrel
    have HACK := Lib.hid hack
    have HRD := Lib.hid hrd
    have ROW_ := Lib.hid hrow
    have HOWN := Lib.hid hown
    have HCH := Lib.hid hchg
    have HLEN := Lib.hid hlen
    clear hack hrd hrow hown hchg
    by_cases hjn : j < O3
    · have hjI : (j : Int) < (O3 : Int) := by omega
      obtain ⟨n, hn⟩ : ∃ n, O3 - j = n + 1 := ⟨O3 - j - 1, by omega⟩
      have hack := HACK.out
      rw [hn] at hack
      unfold rAcks at hack
      dsimp only at hack
      rcases HOWN.out.2 with ⟨_, h0⟩ | ⟨g, cap2, cur, rfl, hbg, hg, _, _, _, htk⟩
      · omega
      have cj : wr.cell? ⟨g, j * 2, none⟩ = some (.int .i64 (A.getLastD (0, 0)).1) := by
        obtain ⟨q1, _⟩ := spC_at A j (by omega)
        have e : A.getLastD (0, 0) = A[j]'(by omega) := by
          rw [List.getLastD_eq_getLast?, List.getLast?_eq_getElem?, show A.length - 1 = j by omega, List.getElem?_eq_getElem (by omega)]
          rfl
        rw [cell_of_row _ _ _ _ _ _ hg, e, ← q1, ← htk, List.getElem?_take, if_pos (by omega)]
        simp
      obtain ⟨fr, hfr⟩ : ∃ x, (A.getLastD (0, 0)).1 = x := ⟨_, rfl⟩
      rw [hfr] at hb1 hb2 hack cj
      rw [hlen] at ROW_
      have bl := lt_row H0.out.row
      have fbl := lt_row HF.out
      have hgb : g ≠ b := by omega
      have hgf : g ≠ fb := by omega
      obtain ⟨Q1, hQ1⟩ : ∃ R, rMost F len (fr - 2) s = R := ⟨_, rfl⟩
      have q1le := rMost_le F len (fr - 2) s
      rw [hQ1] at hack q1le
      obtain ⟨gap, s1⟩ := Q1
      dsimp only at hack q1le
      obtain ⟨Q2, hQ2⟩ : ∃ R, rSpan F len (fr - 2 - (gap : Int)) s1 = R := ⟨_, rfl⟩
      have q2le := rMost_le F len (fr - 2 - (gap : Int)) s1
      rw [hQ2] at hack
      obtain ⟨⟨z1, z2⟩, s2⟩ := Q2
      dsimp only at hack
      have hz : z2 = fr - 2 - (gap : Int) ∧ z1 ≤ z2 ∧ (z1 = z2 ∨ 0 ≤ z1) := by
        unfold rSpan at hQ2
        injection hQ2 with h1 h2
        injection h1 with h1 h3
        omega
      have HACK2 := Lib.hid hack
      have Q1E := Lib.hid hQ1
      have Q2E := Lib.hid hQ2
      have LAST := Lib.hid (show ((A ++ [(z1, z2)]).getLastD (0, 0)) = (z1, z2) by rw [List.getLastD_eq_getLast?, List.getLast?_append]; rfl)
      clear hack hQ1 hQ2 q2le hfr
      have d8 : wr.drew.cell? ⟨fb, 8, none⟩ = some (.slice (some ⟨g, 0, none⟩) (j + 1) cap2) := (cells9 ROW_.out).2.2.2.2.2.2.2.2
      have dj : wr.drew.cell? ⟨g, j * 2, none⟩ = some (.int .i64 fr) := cj
      have hjj : ((j + 1 : Nat) : Int) - 1 = (j : Int) := by omega
      have am := atMost_any HRD.out.drew (fr - 2)
      rw [Q1E.out] at am
      dsimp only at am
      have AM := Lib.hid am
      clear am cj
      go_upto_region 6 with (fail)
      go_region
      clear d8 dj hjj
      go_wp2_with fail
      with_reducible refine AM.out.mono ?_
      rintro x w8 ⟨rfl, h8, g8⟩
      have f8 := g8.row HNE.out.symm (show wr.drew.heap[fb]? = _ from ROW_.out)
      have F8 := Lib.hid f8
      have hown2 : wr.ownsRow w.heap.size ST 2 (.slice (some ⟨g, 0, none⟩) (j + 1) cap2) A.length (spC A) := by
        have h := HOWN.out
        rw [show (Value.slice (some ⟨g, 0, none⟩) A.length cap2) = .slice (some ⟨g, 0, none⟩) (j + 1) cap2 by rw [hlen]] at h
        exact h
      have OW8 := Lib.hid (ownsRow_keep (w := wr) (w' := w8.drew) hown2 (fun k hk hlt => (by
        have hk' : some g = some k := hk
        injection hk' with hk'
        exact g8.block k hlt (by omega))))
      have G8 := Lib.hid ((HCH.out.drew.trans g8.left).drew)
      have sp := spanTo_any h8.drew (fr - 2 - (gap : Int)) (by omega) (by omega)
      rw [Q2E.out] at sp
      dsimp only at sp
      obtain ⟨rfl, hz3, hz4⟩ := hz
      have hw1 : -9223372036854775808 ≤ fr - 2 - (gap : Int) := by omega
      have hw2 : fr - 2 - (gap : Int) ≤ 9223372036854775807 := by omega
      have hw3 : -9223372036854775808 ≤ fr - 2 := by omega
      have hw4 : fr - 2 ≤ 9223372036854775807 := by omega
      have BND := Lib.hid (show -(2 * ((j + 1 : Nat) : Int)) ≤ z1 ∧ z1 < 9223372036854775808 by omega)
      have SP2 := Lib.hid sp
      clear h8 g8 sp AM f8 hz3 hz4 q1le hb1 hb2
      go_upto_region 8 with (fail)
      have HS : Hid ((fun _ : World => True) w8.drew) := Lib.hid trivial
      refine wp_region_held_drew (S := fun _ => True) mixedOrders HS.out (fun hHeld => ?_)
      clear hHeld
      refine wpAnyH_take (i := 0) (oi := ⟨some 44, _, _, _, _, _⟩) (v := .pointer (some ⟨fb, 0, none⟩)) rfl (by kernel_rfl) (by kernel_rfl) (by kernel_rfl) (fun _ _ _ h => h) (Or.inl ⟨by rfl, fun w' hSw => ?_⟩) HS.out ?_
      · go_simp
      simp only [Act.put, List.setIfInBounds_toArray, List.set_cons_succ, List.set_cons_zero]
      refine wpAnyH_take (i := 1) (oi := ⟨some 45, _, _, _, _, _⟩) (v := .pointer (some ⟨fb, 0, none⟩)) rfl (by kernel_rfl) (by kernel_rfl) (by kernel_rfl) (fun _ _ _ h => h) (Or.inl ⟨by rfl, fun w' hSw => ?_⟩) HS.out ?_
      · go_simp
      simp only [Act.put, List.setIfInBounds_toArray, List.set_cons_succ, List.set_cons_zero]
      refine wpAnyH_take (i := 2) (oi := ⟨some 46, _, _, _, _, _⟩) (v := .pointer (some ⟨fb, 0, none⟩)) rfl (by kernel_rfl) (by kernel_rfl) (by kernel_rfl) (fun _ _ _ h => h) (Or.inl ⟨by rfl, fun w' hSw => ?_⟩) HS.out ?_
      · go_simp
      simp only [Act.put, List.setIfInBounds_toArray, List.set_cons_succ, List.set_cons_zero]
      refine wpAnyH_take (i := 3) (oi := ⟨some 47, _, _, _, _, _⟩) (v := .pointer (some ⟨fb, 8, none⟩)) rfl (by kernel_rfl) (by kernel_rfl) (by kernel_rfl) (fun _ _ _ h => h) (Or.inl ⟨by rfl, fun w' hSw => ?_⟩) HS.out ?_
      · go_simp
      simp only [Act.put, List.setIfInBounds_toArray, List.set_cons_succ, List.set_cons_zero]
      refine wpAnyH_take (i := 5) (oi := ⟨some 49, _, _, _, _, _⟩) (v := .pointer (some ⟨b, 0, none⟩)) rfl (by kernel_rfl) (by kernel_rfl) (by kernel_rfl) (fun _ _ _ h => h) (Or.inl ⟨by rfl, fun w' hSw => ?_⟩) HS.out ?_
      · go_simp
      simp only [Act.put, List.setIfInBounds_toArray, List.set_cons_succ, List.set_cons_zero]
      refine wpAnyH_take (i := 6) (oi := ⟨some 50, _, _, _, _, _⟩) (v := .int .i64 fr) rfl (by kernel_rfl) (by kernel_rfl) (by kernel_rfl) (fun _ _ _ h => h) (Or.inl ⟨by rfl, fun w' hSw => ?_⟩) HS.out ?_
      · go_simp
      simp only [Act.put, List.setIfInBounds_toArray, List.set_cons_succ, List.set_cons_zero]
      refine wpAnyH_take (i := 7) (oi := ⟨some 51, _, _, _, _, _⟩) (v := .int .i64 (fr - 2)) rfl (by kernel_rfl) (by kernel_rfl) (by kernel_rfl) (fun _ _ _ h => h) (Or.inl ⟨by rfl, fun w' hSw => ?_⟩) HS.out ?_
      · clear hSw
        go_simp
        rw [IntKind.wrap_i64]
        omega
      simp only [Act.put, List.setIfInBounds_toArray, List.set_cons_succ, List.set_cons_zero]
      refine wpAnyH_take (i := 8) (oi := ⟨some 52, _, _, _, _, _⟩) (v := .int .i64 (gap : Int)) rfl (by kernel_rfl) (by kernel_rfl) (by kernel_rfl) (fun _ _ _ h => h) (Or.inl ⟨by rfl, fun w' hSw => ?_⟩) HS.out ?_
      · go_simp
      simp only [Act.put, List.setIfInBounds_toArray, List.set_cons_succ, List.set_cons_zero]
      refine wpAnyH_take (i := 9) (oi := ⟨some 53, _, _, _, _, _⟩) (v := .int .i64 (fr - 2 - (gap : Int))) rfl (by kernel_rfl) (by kernel_rfl) (by kernel_rfl) (fun _ _ _ h => h) (Or.inl ⟨by rfl, fun w' hSw => ?_⟩) HS.out ?_
      · clear hSw
        go_simp
        rw [IntKind.wrap_i64]
        omega
      simp only [Act.put, List.setIfInBounds_toArray, List.set_cons_succ, List.set_cons_zero]
      refine wpAnyH_ready (rs := [4, 10]) (by kernel_rfl) (by simp) ?_
      refine AllReadyH.cons (i := 4) rfl (fun K hK => ?_) (AllReadyH.cons (i := 10) rfl (fun K hK => ?_) AllReadyH.nil)
      · rw [if_pos (by rfl)]
        have c8 := (cells9 (show w8.drew.heap[fb]? = _ from F8.out)).2.2.2.2.2.2.2.2
        go_simp
        clear c8
        refine hK.out _ _ trivial (fun _ => ?_)
        clear hK K
        try simp only [Act.put, List.setIfInBounds_toArray, List.set_cons_succ, List.set_cons_zero]
        refine wpAnyH_ready (rs := [10]) (by kernel_rfl) (by simp) ?_
        refine AllReadyH.cons (i := 10) rfl (fun K hK => ?_) AllReadyH.nil
        rw [if_pos (by rfl)]
        go_simp
        go_at_call 49
        refine SP2.out.mono ?_
        rintro x w9 ⟨rfl, h9, g9⟩
        dsimp only
        have F9 := Lib.hid (g9.row HNE.out.symm (show w8.drew.heap[fb]? = _ from F8.out))
        have OW9 := Lib.hid (ownsRow_keep OW8.out (fun k hk hlt => (by
          have hk' : some g = some k := hk
          injection hk' with hk'
          exact g9.block k hlt (by omega))))
        have H9 := Lib.hid h9
        have G9 := Lib.hid (G8.out.trans g9.left)
        refine hK.out _ _ trivial (fun _ => ?_)
        clear hK K h9 g9
        try simp only [Act.put, List.setIfInBounds_toArray, List.set_cons_succ, List.set_cons_zero]
        refine wpAnyH_ready (rs := [11]) (by kernel_rfl) (by simp) ?_
        refine AllReadyH.cons (i := 11) rfl (fun K hK => ?_) AllReadyH.nil
        rw [if_pos (by rfl)]
        go_simp
        have hl := heap_alloc_last w9 (.cells #[.int .i64 z1, .int .i64 (fr - 2 - (gap : Int))] 50)
        have al := (Below.refl w9.heap.size w9).alloc (Nat.le_refl _) (.cells #[.int .i64 z1, .int .i64 (fr - 2 - (gap : Int))] 50)
        have ow := OW9.out.alloc (.cells #[.int .i64 z1, .int .i64 (fr - 2 - (gap : Int))] 50)
        generalize w9.alloc _ = w10 at *
        have AL := Lib.hid al
        have HL := Lib.hid hl
        have OW10 := Lib.hid ow
        have F10 := Lib.hid ((al.block _ (lt_row F9.out)).trans F9.out)
        have G10 := Lib.hid (G9.out.trans (Chg2.of_below al))
        refine hK.out _ _ trivial (fun _ => ?_)
        clear hK K al hl ow
        try simp only [Act.put, List.setIfInBounds_toArray, List.set_cons_succ, List.set_cons_zero]
        refine wpAnyH_ready (rs := [12]) (by kernel_rfl) (by simp) ?_
        refine AllReadyH.cons (i := 12) rfl (fun K hK => ?_) AllReadyH.nil
        rw [if_pos (by rfl)]
        refine step_append_span (o := ⟨some 56, _, _, _, _, _⟩) _ _ rfl w.heap.size _ A rfl OW10.out w9.heap.size z1 (fr - 2 - (gap : Int)) rfl HL.out (by omega) G10.out.size ?_
        intro v11 w11 ho11 hg11
        obtain ⟨ga, gc, hv11⟩ := own_form ho11
        rw [hlen] at hv11
        subst hv11
        have f11 := (hg11.block fb (lt_row F10.out) (fun e => hgf (own_eq e.symm))).trans F10.out
        have b11 := (hg11.block b (by have := lt_row H9.out.row; have := AL.out.size; omega) (fun e => hgb (own_eq e.symm))).trans ((AL.out.block _ (lt_row H9.out.row)).trans H9.out.row)
        have c11 : Chg2 b fb w w11 := ⟨hg11.os.trans G10.out.os, hg11.tape.trans G10.out.tape, hg11.output.trans G10.out.output, Nat.le_trans G10.out.size hg11.size, fun k hk hb hf => (hg11.block k (Nat.lt_of_lt_of_le hk G10.out.size) (fun e => by have e2 : g = k := own_eq e.symm; omega)).trans (G10.out.block k hk hb hf)⟩
        have FZ : w11.frozen? ⟨fb, 8, none⟩ = false := frozen_of_row _ _ _ _ _ f11
        have c8 := (cells9 f11).2.2.2.2.2.2.2.2
        have rs := rowSet_cell w11 fb 8 _ _ (.slice ga (j + 1 + 1) gc) f11
        have RS := Lib.hid rs
        have C11 := Lib.hid c11
        have B11 := Lib.hid b11
        have O11 := Lib.hid ho11
        refine hK.out _ _ trivial (fun _ => ?_)
        clear hK K f11 b11 c11 rs ho11 hg11
        try simp only [Act.put, List.setIfInBounds_toArray, List.set_cons_succ, List.set_cons_zero]
        refine wpAnyH_take (i := 13) (oi := ⟨some 57, _, _, _, _, _⟩) (v := .pointer (some ⟨fb, 0, none⟩)) rfl (by kernel_rfl) (by kernel_rfl) (by kernel_rfl) (fun _ _ _ h => h) (Or.inl ⟨by rfl, fun w' hSw => ?_⟩) HS.out ?_
        · go_simp
        simp only [Act.put, List.setIfInBounds_toArray, List.set_cons_succ, List.set_cons_zero]
        refine wpAnyH_take (i := 14) (oi := ⟨some 58, _, _, _, _, _⟩) (v := .pointer (some ⟨fb, 8, none⟩)) rfl (by kernel_rfl) (by kernel_rfl) (by kernel_rfl) (fun _ _ _ h => h) (Or.inl ⟨by rfl, fun w' hSw => ?_⟩) HS.out ?_
        · go_simp
        simp only [Act.put, List.setIfInBounds_toArray, List.set_cons_succ, List.set_cons_zero]
        refine wpAnyH_ready (rs := [15]) (by kernel_rfl) (by simp) ?_
        refine AllReadyH.cons (i := 15) rfl (fun K hK => ?_) AllReadyH.nil
        rw [if_pos (by rfl)]
        go_simp
        refine hK.out _ _ trivial (fun _ => ?_)
        clear hK K c8 FZ
        try simp only [Act.put, List.setIfInBounds_toArray, List.set_cons_succ, List.set_cons_zero]
        refine wpAnyH_done (by kernel_rfl) ?_ _
        have C12 := Lib.hid (C11.out.trans RS.out.chg.right)
        have RD := Lib.hid (show Rd _ b a len cap F s2.p s2.e from ⟨(RS.out.other b HNE.out).trans B11.out, H0.out.inB.chg2 C12.out H0.out.off HOFF.out, H0.out.lc, H0.out.cm, H9.out.pl, H0.out.off⟩)
        have OW12 := Lib.hid (ownsRow_keep O11.out (fun k hk _ => RS.out.other k (by have := (O11.out.lt k hk).1; omega)))
        generalize World.setCell _ _ _ = w12 at *
        go_wp2_with fail
        go_roundw
        case rel =>
          exact ⟨j + 1, A ++ [(z1, fr - 2 - (gap : Int))], .slice ga (j + 1 + 1) gc, s2, by omega, by first | rfl | (congr 1), by rw [List.length_append, hlen]; rfl, by rw [LAST.out]; exact BND.out, by rw [show O3 - (j + 1) = n by omega]; exact HACK2.out, RD.out, RS.out.row, by rw [List.length_append]; exact OW12.out, C12.out⟩
        case measure => (simp [intOf] <;> omega)
      · rw [if_pos (by rfl)]
        go_simp
        go_at_call 49
        refine SP2.out.mono ?_
        rintro x w9 ⟨rfl, h9, g9⟩
        dsimp only
        have F9 := Lib.hid (g9.row HNE.out.symm (show w8.drew.heap[fb]? = _ from F8.out))
        have OW9 := Lib.hid (ownsRow_keep OW8.out (fun k hk hlt => (by
          have hk' : some g = some k := hk
          injection hk' with hk'
          exact g9.block k hlt (by omega))))
        have H9 := Lib.hid h9
        have G9 := Lib.hid (G8.out.trans g9.left)
        refine hK.out _ _ trivial (fun _ => ?_)
        clear hK K h9 g9
        try simp only [Act.put, List.setIfInBounds_toArray, List.set_cons_succ, List.set_cons_zero]
        refine wpAnyH_ready (rs := [4, 11]) (by kernel_rfl) (by simp) ?_
        refine AllReadyH.cons (i := 4) rfl (fun K hK => ?_) (AllReadyH.cons (i := 11) rfl (fun K hK => ?_) AllReadyH.nil)
        · rw [if_pos (by rfl)]
          have c8 := (cells9 (F9.out)).2.2.2.2.2.2.2.2
          go_simp
          clear c8
          refine hK.out _ _ trivial (fun _ => ?_)
          clear hK K
          try simp only [Act.put, List.setIfInBounds_toArray, List.set_cons_succ, List.set_cons_zero]
          refine wpAnyH_ready (rs := [11]) (by kernel_rfl) (by simp) ?_
          refine AllReadyH.cons (i := 11) rfl (fun K hK => ?_) AllReadyH.nil
          rw [if_pos (by rfl)]
          go_simp
          have hl := heap_alloc_last w9 (.cells #[.int .i64 z1, .int .i64 (fr - 2 - (gap : Int))] 50)
          have al := (Below.refl w9.heap.size w9).alloc (Nat.le_refl _) (.cells #[.int .i64 z1, .int .i64 (fr - 2 - (gap : Int))] 50)
          have ow := OW9.out.alloc (.cells #[.int .i64 z1, .int .i64 (fr - 2 - (gap : Int))] 50)
          generalize w9.alloc _ = w10 at *
          have AL := Lib.hid al
          have HL := Lib.hid hl
          have OW10 := Lib.hid ow
          have F10 := Lib.hid ((al.block _ (lt_row F9.out)).trans F9.out)
          have G10 := Lib.hid (G9.out.trans (Chg2.of_below al))
          refine hK.out _ _ trivial (fun _ => ?_)
          clear hK K al hl ow
          try simp only [Act.put, List.setIfInBounds_toArray, List.set_cons_succ, List.set_cons_zero]
          refine wpAnyH_ready (rs := [12]) (by kernel_rfl) (by simp) ?_
          refine AllReadyH.cons (i := 12) rfl (fun K hK => ?_) AllReadyH.nil
          rw [if_pos (by rfl)]
          refine step_append_span (o := ⟨some 56, _, _, _, _, _⟩) _ _ rfl w.heap.size _ A rfl OW10.out w9.heap.size z1 (fr - 2 - (gap : Int)) rfl HL.out (by omega) G10.out.size ?_
          intro v11 w11 ho11 hg11
          obtain ⟨ga, gc, hv11⟩ := own_form ho11
          rw [hlen] at hv11
          subst hv11
          have f11 := (hg11.block fb (lt_row F10.out) (fun e => hgf (own_eq e.symm))).trans F10.out
          have b11 := (hg11.block b (by have := lt_row H9.out.row; have := AL.out.size; omega) (fun e => hgb (own_eq e.symm))).trans ((AL.out.block _ (lt_row H9.out.row)).trans H9.out.row)
          have c11 : Chg2 b fb w w11 := ⟨hg11.os.trans G10.out.os, hg11.tape.trans G10.out.tape, hg11.output.trans G10.out.output, Nat.le_trans G10.out.size hg11.size, fun k hk hb hf => (hg11.block k (Nat.lt_of_lt_of_le hk G10.out.size) (fun e => by have e2 : g = k := own_eq e.symm; omega)).trans (G10.out.block k hk hb hf)⟩
          have FZ : w11.frozen? ⟨fb, 8, none⟩ = false := frozen_of_row _ _ _ _ _ f11
          have c8 := (cells9 f11).2.2.2.2.2.2.2.2
          have rs := rowSet_cell w11 fb 8 _ _ (.slice ga (j + 1 + 1) gc) f11
          have RS := Lib.hid rs
          have C11 := Lib.hid c11
          have B11 := Lib.hid b11
          have O11 := Lib.hid ho11
          refine hK.out _ _ trivial (fun _ => ?_)
          clear hK K f11 b11 c11 rs ho11 hg11
          try simp only [Act.put, List.setIfInBounds_toArray, List.set_cons_succ, List.set_cons_zero]
          refine wpAnyH_take (i := 13) (oi := ⟨some 57, _, _, _, _, _⟩) (v := .pointer (some ⟨fb, 0, none⟩)) rfl (by kernel_rfl) (by kernel_rfl) (by kernel_rfl) (fun _ _ _ h => h) (Or.inl ⟨by rfl, fun w' hSw => ?_⟩) HS.out ?_
          · go_simp
          simp only [Act.put, List.setIfInBounds_toArray, List.set_cons_succ, List.set_cons_zero]
          refine wpAnyH_take (i := 14) (oi := ⟨some 58, _, _, _, _, _⟩) (v := .pointer (some ⟨fb, 8, none⟩)) rfl (by kernel_rfl) (by kernel_rfl) (by kernel_rfl) (fun _ _ _ h => h) (Or.inl ⟨by rfl, fun w' hSw => ?_⟩) HS.out ?_
          · go_simp
          simp only [Act.put, List.setIfInBounds_toArray, List.set_cons_succ, List.set_cons_zero]
          refine wpAnyH_ready (rs := [15]) (by kernel_rfl) (by simp) ?_
          refine AllReadyH.cons (i := 15) rfl (fun K hK => ?_) AllReadyH.nil
          rw [if_pos (by rfl)]
          go_simp
          refine hK.out _ _ trivial (fun _ => ?_)
          clear hK K c8 FZ
          try simp only [Act.put, List.setIfInBounds_toArray, List.set_cons_succ, List.set_cons_zero]
          refine wpAnyH_done (by kernel_rfl) ?_ _
          have C12 := Lib.hid (C11.out.trans RS.out.chg.right)
          have RD := Lib.hid (show Rd _ b a len cap F s2.p s2.e from ⟨(RS.out.other b HNE.out).trans B11.out, H0.out.inB.chg2 C12.out H0.out.off HOFF.out, H0.out.lc, H0.out.cm, H9.out.pl, H0.out.off⟩)
          have OW12 := Lib.hid (ownsRow_keep O11.out (fun k hk _ => RS.out.other k (by have := (O11.out.lt k hk).1; omega)))
          generalize World.setCell _ _ _ = w12 at *
          go_wp2_with fail
          go_roundw
          case rel =>
            exact ⟨j + 1, A ++ [(z1, fr - 2 - (gap : Int))], .slice ga (j + 1 + 1) gc, s2, by omega, by first | rfl | (congr 1), by rw [List.length_append, hlen]; rfl, by rw [LAST.out]; exact BND.out, by rw [show O3 - (j + 1) = n by omega]; exact HACK2.out, RD.out, RS.out.row, by rw [List.length_append]; exact OW12.out, C12.out⟩
          case measure => (simp [intOf] <;> omega)
        · rw [if_pos (by rfl)]
          go_simp
          have hl := heap_alloc_last w9 (.cells #[.int .i64 z1, .int .i64 (fr - 2 - (gap : Int))] 50)
          have al := (Below.refl w9.heap.size w9).alloc (Nat.le_refl _) (.cells #[.int .i64 z1, .int .i64 (fr - 2 - (gap : Int))] 50)
          have ow := OW9.out.alloc (.cells #[.int .i64 z1, .int .i64 (fr - 2 - (gap : Int))] 50)
          generalize w9.alloc _ = w10 at *
          have AL := Lib.hid al
          have HL := Lib.hid hl
          have OW10 := Lib.hid ow
          have F10 := Lib.hid ((al.block _ (lt_row F9.out)).trans F9.out)
          have G10 := Lib.hid (G9.out.trans (Chg2.of_below al))
          refine hK.out _ _ trivial (fun _ => ?_)
          clear hK K al hl ow
          try simp only [Act.put, List.setIfInBounds_toArray, List.set_cons_succ, List.set_cons_zero]
          refine wpAnyH_ready (rs := [4]) (by kernel_rfl) (by simp) ?_
          refine AllReadyH.cons (i := 4) rfl (fun K hK => ?_) AllReadyH.nil
          rw [if_pos (by rfl)]
          have c8 := (cells9 (F10.out)).2.2.2.2.2.2.2.2
          go_simp
          clear c8
          refine hK.out _ _ trivial (fun _ => ?_)
          clear hK K
          try simp only [Act.put, List.setIfInBounds_toArray, List.set_cons_succ, List.set_cons_zero]
          refine wpAnyH_ready (rs := [12]) (by kernel_rfl) (by simp) ?_
          refine AllReadyH.cons (i := 12) rfl (fun K hK => ?_) AllReadyH.nil
          rw [if_pos (by rfl)]
          refine step_append_span (o := ⟨some 56, _, _, _, _, _⟩) _ _ rfl w.heap.size _ A rfl OW10.out w9.heap.size z1 (fr - 2 - (gap : Int)) rfl HL.out (by omega) G10.out.size ?_
          intro v11 w11 ho11 hg11
          obtain ⟨ga, gc, hv11⟩ := own_form ho11
          rw [hlen] at hv11
          subst hv11
          have f11 := (hg11.block fb (lt_row F10.out) (fun e => hgf (own_eq e.symm))).trans F10.out
          have b11 := (hg11.block b (by have := lt_row H9.out.row; have := AL.out.size; omega) (fun e => hgb (own_eq e.symm))).trans ((AL.out.block _ (lt_row H9.out.row)).trans H9.out.row)
          have c11 : Chg2 b fb w w11 := ⟨hg11.os.trans G10.out.os, hg11.tape.trans G10.out.tape, hg11.output.trans G10.out.output, Nat.le_trans G10.out.size hg11.size, fun k hk hb hf => (hg11.block k (Nat.lt_of_lt_of_le hk G10.out.size) (fun e => by have e2 : g = k := own_eq e.symm; omega)).trans (G10.out.block k hk hb hf)⟩
          have FZ : w11.frozen? ⟨fb, 8, none⟩ = false := frozen_of_row _ _ _ _ _ f11
          have c8 := (cells9 f11).2.2.2.2.2.2.2.2
          have rs := rowSet_cell w11 fb 8 _ _ (.slice ga (j + 1 + 1) gc) f11
          have RS := Lib.hid rs
          have C11 := Lib.hid c11
          have B11 := Lib.hid b11
          have O11 := Lib.hid ho11
          refine hK.out _ _ trivial (fun _ => ?_)
          clear hK K f11 b11 c11 rs ho11 hg11
          try simp only [Act.put, List.setIfInBounds_toArray, List.set_cons_succ, List.set_cons_zero]
          refine wpAnyH_take (i := 13) (oi := ⟨some 57, _, _, _, _, _⟩) (v := .pointer (some ⟨fb, 0, none⟩)) rfl (by kernel_rfl) (by kernel_rfl) (by kernel_rfl) (fun _ _ _ h => h) (Or.inl ⟨by rfl, fun w' hSw => ?_⟩) HS.out ?_
          · go_simp
          simp only [Act.put, List.setIfInBounds_toArray, List.set_cons_succ, List.set_cons_zero]
          refine wpAnyH_take (i := 14) (oi := ⟨some 58, _, _, _, _, _⟩) (v := .pointer (some ⟨fb, 8, none⟩)) rfl (by kernel_rfl) (by kernel_rfl) (by kernel_rfl) (fun _ _ _ h => h) (Or.inl ⟨by rfl, fun w' hSw => ?_⟩) HS.out ?_
          · go_simp
          simp only [Act.put, List.setIfInBounds_toArray, List.set_cons_succ, List.set_cons_zero]
          refine wpAnyH_ready (rs := [15]) (by kernel_rfl) (by simp) ?_
          refine AllReadyH.cons (i := 15) rfl (fun K hK => ?_) AllReadyH.nil
          rw [if_pos (by rfl)]
          go_simp
          refine hK.out _ _ trivial (fun _ => ?_)
          clear hK K c8 FZ
          try simp only [Act.put, List.setIfInBounds_toArray, List.set_cons_succ, List.set_cons_zero]
          refine wpAnyH_done (by kernel_rfl) ?_ _
          have C12 := Lib.hid (C11.out.trans RS.out.chg.right)
          have RD := Lib.hid (show Rd _ b a len cap F s2.p s2.e from ⟨(RS.out.other b HNE.out).trans B11.out, H0.out.inB.chg2 C12.out H0.out.off HOFF.out, H0.out.lc, H0.out.cm, H9.out.pl, H0.out.off⟩)
          have OW12 := Lib.hid (ownsRow_keep O11.out (fun k hk _ => RS.out.other k (by have := (O11.out.lt k hk).1; omega)))
          generalize World.setCell _ _ _ = w12 at *
          go_wp2_with fail
          go_roundw
          case rel =>
            exact ⟨j + 1, A ++ [(z1, fr - 2 - (gap : Int))], .slice ga (j + 1 + 1) gc, s2, by omega, by first | rfl | (congr 1), by rw [List.length_append, hlen]; rfl, by rw [LAST.out]; exact BND.out, by rw [show O3 - (j + 1) = n by omega]; exact HACK2.out, RD.out, RS.out.row, by rw [List.length_append]; exact OW12.out, C12.out⟩
          case measure => (simp [intOf] <;> omega)
    · obtain rfl : j = O3 := by omega
      have hjI : ¬ (j : Int) < (j : Int) := by omega
      have hack := HACK.out
      rw [Nat.sub_self] at hack
      have hA : A = RR.2.1 := congrArg Prod.fst hack
      have hs : s = RR.2.2 := congrArg Prod.snd hack
      have hRN : RR.1 = (N2 : Int) := by rw [← HR.out]
      have FIN := Lib.hid (show ∃ v2, Rd wr b a len cap F RR.2.2.p RR.2.2.e ∧ wr.heap[fb]? = some (.cells #[.int .i64 K, .int .i64 S, .int .i64 O, .int .i64 RR.1, .int .i64 C, .bool Fi, .string D, .string X, v2] 33 (0, 0)) ∧ SpansIn wr v2 RR.2.1 ∧ Chg2 b fb w wr ∧ ∀ g, v2.ownBlock = some g → w.heap.size ≤ g from ⟨v', by rw [← hs]; exact HRD.out, by rw [hRN]; exact ROW_.out, by rw [← hA]; exact owns_spans HOWN.out, HCH.out, fun g hg => (HOWN.out.lt g hg).1⟩)
      clear hA hs hRN hack
      go_wp2_with fail
      go_end0
      obtain ⟨v2, q⟩ := FIN.out
      exact ⟨rfl, v2, q⟩
end Go.Proofs.YtcgbhcmgddgheabDoor
