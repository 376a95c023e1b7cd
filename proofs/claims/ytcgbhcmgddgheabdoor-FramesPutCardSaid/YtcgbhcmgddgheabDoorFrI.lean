/-
  FRAMES, NINTH PART: an Ack's numbers behind bytes.
-/
import Derived.Test.YtcgbhcmgddgheabDoorFrH
namespace Go.Proofs.YtcgbhcmgddgheabDoor
open Go Go.RowKit Go.BigFrame
set_option linter.unusedSimpArgs false
set_option linter.unusedVariables false
set_option maxRecDepth 100000
theorem run_behind (a : Option Addr) (m c : Nat) (hm : 1 ≤ m) (hc : m ≤ c) : ∃ a', (∀ w : World, (Instr.sliceAt 31 (.slice a m c) (some (.int .i64 1)) none none).run Tryd.prog w = .ok (.slice a' (m - 1) (c - 1)) w) ∧ (c ≠ 1 → a' = a.map (·.add 2)) := by
  have he : Tryd.prog.cellsOf (Tryd.prog.elem 31) = 2 := by kernel_rfl
  have hu : Tryd.prog.underlying 31 = some (.slice (Tryd.prog.elem 31)) := by kernel_rfl
  refine ⟨if c = 1 then a else a.map (·.add 2), fun w => ?_, fun h => by rw [if_neg h]⟩
  rw [run_sliceAt_slice (t := 31) (h := hu), run_slice_any (t := 31) (ht := hu)]
  have h1 : (1 : Int) ≤ (m : Int) := by omega
  simp [Instr.sliceBounds, go_sem, h1, he]
theorem GrownV.set {w wr wr' : World} {v v' : Value} {q : Nat} {T : TypeId} {c : Array Value} (g : GrownV w wr v v') (hq : w.heap.size ≤ q) (rs : RowSet wr q T c wr') : GrownV w wr' v v' := by
  have h0 := rs.below 0 (Nat.zero_le _)
  exact ⟨⟨h0.os.trans g.grown.os, h0.tape.trans g.grown.tape, h0.output.trans g.grown.output, Nat.le_trans g.grown.size h0.size, fun k hk hne => (rs.other k (by omega)).trans (g.grown.block k hk hne)⟩, g.blk⟩
/-- A row of another type isn't one's own bytes'. -/
theorem OwnS.not {B q : Nat} {v : Value} {S : ByteArray} {w : World} {T : TypeId} {c : Array Value} (h : OwnS B v S w) (hq : w.heap[q]? = some (.cells c T (0, 0))) (hT : T ≠ 5) : v.ownBlock ≠ some q := by
  obtain ⟨n, f, ho, _⟩ := h
  intro hk
  rcases ho.row.2 with ⟨hv, _⟩ | ⟨g, cap, cur, hv, _, hg, _⟩
  · rw [hv] at hk; cases hk
  · rw [hv] at hk
    injection hk with hk
    have hk : g = q := hk
    subst hk
    rw [hq] at hg
    injection hg with hg
    injection hg with _ hg
    exact hT hg
theorem ownsRow_keep {w w' : World} {base : Nat} {e : TypeId} {size : Nat} {v : Value} {n : Nat} {xs : List Value} (h : w.ownsRow base e size v n xs) (hk : ∀ g, v.ownBlock = some g → g < w.heap.size → w'.heap[g]? = w.heap[g]?) : w'.ownsRow base e size v n xs := by
  refine ⟨h.1, ?_⟩
  rcases h.2 with hn | ⟨g, cap, cur, hv, hb', hg, rest⟩
  · exact .inl hn
  · exact .inr ⟨g, cap, cur, hv, hb', (hk g (by rw [hv]; rfl) (lt_row hg)).trans hg, rest⟩
theorem own_keep {B n : Nat} {v : Value} {f : Nat → BitVec 8} {w w' : World} (h : Own B v n f w) (hs : w.heap.size ≤ w'.heap.size) (hk : ∀ g, v.ownBlock = some g → g < w.heap.size → w'.heap[g]? = w.heap[g]?) : Own B v n f w' :=
  ⟨ownsRow_keep h.row hk, Nat.le_trans h.base hs⟩
theorem OwnS.keepRow {B q : Nat} {v : Value} {S : ByteArray} {w w' : World} {T : TypeId} {c : Array Value} (h : OwnS B v S w) (rs : RowSet w q T c w') (hne : v.ownBlock ≠ some q) : OwnS B v S w' := by
  obtain ⟨n, f, ho, e⟩ := h
  exact ⟨n, f, own_keep ho (Nat.le_of_eq rs.size.symm) (fun g hg _ => rs.other g (fun e => hne (by rw [hg, e]))), e⟩
theorem rowSet_two {w : World} {q : Nat} {T : TypeId} {a b c d : Value} (h : w.heap[q]? = some (.cells #[a, b] T (0, 0))) : RowSet w q T #[c, d] ((w.setCell ⟨q, 0, none⟩ c).setCell ⟨q, 1, none⟩ d) := by
  have s1 := rowSet_cell w q 0 _ _ c h
  have s2 := rowSet_cell _ q 1 _ _ d s1.row
  exact ⟨s2.row, fun k hk => (s2.other k hk).trans (s1.other k hk), s2.size.trans s1.size, fun b hb => (s1.below b hb).trans (s2.below b hb)⟩
theorem OwnS.lt {B k : Nat} {v : Value} {S : ByteArray} {w : World} (h : OwnS B v S w) (hk : v.ownBlock = some k) : B ≤ k ∧ k < w.heap.size := by
  obtain ⟨n, f, ho, _⟩ := h
  exact ho.lt hk
theorem numsT_head (S : ByteArray) (N : Int) (A : List (Int × Int)) (i : Nat) : S ++ numsT (headL N A ++ gapL A i) ++ numsT [(A.getD i (0, 0)).1 - (A.getD (i + 1) (0, 0)).2 - 2, (A.getD (i + 1) (0, 0)).2 - (A.getD (i + 1) (0, 0)).1] = S ++ numsT (headL N A ++ gapL A (i + 1)) := by
  rw [gapL_succ, ← List.append_assoc, numsT_append _ [_, _], ByteArray.append_assoc]
theorem acks_size (N : Int) (A : List (Int × Int)) (i : Nat) (hi : i ≤ 64) : (numsT (headL N A ++ gapL A i)).size ≤ 2000 := by
  have h1 := numsT_size (headL N A ++ gapL A i)
  have h2 : (gapL A i).length = 2 * i := by
    clear h1 hi
    induction i with
    | zero => rfl
    | succ n ih => rw [gapL_succ, List.length_append, ih]; simp; omega
  rw [List.length_append, h2] at h1
  have h3 : (headL N A).length = 4 := rfl
  omega
set_option maxHeartbeats 16000000 in
theorem appendAcks_any {B : Nat} {bv : Value} {S : ByteArray} (f : Fr) (v : Value) (w0 w : World) (hA : SpansIn w0 v f.A) (h0B : w0.heap.size ≤ B) (h0w : Below w0.heap.size w0 w) (tab0 : Tab w0) (hf : falling f.A) (hN : 0 ≤ f.N ∧ f.N ≤ MX) (h : OwnS B bv S w) (hS : S.size ≤ 1000000) :
    Calls Tryd.prog 34 #[.agg (f.cells v), bv] w fun e w' => ∃ v', e = .returned v' ∧ OwnS B v' (S ++ numsT (acksL f.N f.A)) w' ∧ GrownV w w' bv v' := by
  obtain ⟨a, c, rfl, hc, hat⟩ := hA.at_
  have hn1 := hf.1.1
  obtain h0 | ⟨b, o, rfl, hbl, hcell⟩ := hat
  · rw [h0] at hn1; simp at hn1
  have CA := Lib.hid (fun (i : Nat) (hi : i < f.A.length) (w' : World) (hb : Below B w w') => (show w'.cell? ⟨b, o + i * 2, none⟩ = some (.int .i64 (f.A.getD i (0, 0)).1) ∧ w'.cell? ⟨b, o + i * 2 + 1, none⟩ = some (.int .i64 (f.A.getD i (0, 0)).2) by
    have h1 := h0w.trans (hb.mono h0B)
    have h2 : f.A.getD i (0, 0) = f.A[i] := by rw [List.getD_eq_getElem?_getD, List.getElem?_eq_getElem hi]; rfl
    rw [h2]
    exact ⟨(h1.cell (p := ⟨b, o + i * 2, none⟩) hbl).trans (hcell i hi).1, (h1.cell (p := ⟨b, o + i * 2 + 1, none⟩) hbl).trans (hcell i hi).2⟩))
  have TB := Lib.hid (fun (w' : World) (hb : Below B w w') => tab0.later (h0w.trans (hb.mono h0B)))
  have FA := Lib.hid (fallF_at f.A MX hf.2)
  have FN := Lib.hid (fallF_next f.A MX hf.2)
  have OW := Lib.hid h
  have HN := Lib.hid hN
  have TH := Lib.hid (numsT_head S f.N f.A)
  have TS := Lib.hid (fun (i : Nat) (hi : i ≤ 64) => (show (S ++ numsT (headL f.N f.A ++ gapL f.A i)).size ≤ 50000000000 by rw [ByteArray.size_append]; have := acks_size f.N f.A i hi; omega))
  have T0 := Lib.hid (show S ++ numsT (headL f.N f.A) = S ++ numsT (headL f.N f.A ++ gapL f.A 0) by rw [show gapL f.A 0 = [] from rfl, List.append_nil])
  have TE := Lib.hid (show S ++ numsT (headL f.N f.A ++ gapL f.A (f.A.length - 1)) = S ++ numsT (acksL f.N f.A) from rfl)
  have HH := Lib.hid (show headL f.N f.A = [(f.A.getD 0 (0, 0)).2, f.N, (f.A.length : Int) - 1, (f.A.getD 0 (0, 0)).2 - (f.A.getD 0 (0, 0)).1] from rfl)
  have hn64 := hf.1.2
  obtain ⟨hnc, hcm⟩ := hc
  clear hA hcell hbl tab0 h0w h0B hf h hN
  obtain ⟨K, S1, O, N, C, F, D, X, A⟩ := f
  dsimp only [Fr.cells] at *
  unfold frC
  obtain ⟨n, hn⟩ : ∃ n, A.length = n := ⟨_, rfl⟩
  rw [hn] at hn1 hn64 hnc CA FA FN TE HH ⊢
  clear hn
  have hcm' : c ≤ 9223372036854775807 := by unfold maxLen at hcm; omega
  clear hcm
  have row := heap_alloc_last w (.cells #[.int .i64 K, .int .i64 S1, .int .i64 O, .int .i64 N, .int .i64 C, .bool F, .string D, .string X, .slice (some ⟨b, o, none⟩) n c] 33)
  have bel := (Below.refl w.heap.size w).alloc (Nat.le_refl _) (.cells #[.int .i64 K, .int .i64 S1, .int .i64 O, .int .i64 N, .int .i64 C, .bool F, .string D, .string X, .slice (some ⟨b, o, none⟩) n c] 33)
  go_enter Tryd.func34, Tryd.ntmps34
  go_upto_region 1 with (fail)
  generalize w.alloc _ = w1 at *
  have O1 := Lib.hid (OW.out.later bel)
  have B1 := Lib.hid bel
  have R1 := Lib.hid row
  have BB1 := Lib.hid (bel.mono (show B ≤ w.heap.size by obtain ⟨_, _, ho, _⟩ := OW.out; exact ho.base))
  obtain ⟨c0, c1, c2, c3, c4, c5, c6, c7, c8⟩ := cells9 row
  obtain ⟨q0, q1⟩ := CA.out 0 (by omega) w1 BB1.out
  obtain ⟨x1, hx1⟩ : ∃ x, (A.getD 0 (0, 0)).1 = x := ⟨_, rfl⟩
  obtain ⟨x2, hx2⟩ : ∃ x, (A.getD 0 (0, 0)).2 = x := ⟨_, rfl⟩
  have f0 := FA.out 0 (by omega)
  rw [hx1] at q0 f0
  rw [hx2] at q1 f0
  rw [Nat.zero_mul, Nat.add_zero] at q0 q1
  obtain ⟨f1, f2, f3⟩ := f0
  unfold MX at f3
  have HX1 := Lib.hid hx1
  have HX2 := Lib.hid hx2
  clear row bel hx1 hx2
  go_upto_region 2 with (fail)
  have row2 := heap_alloc_last w1 (.cells #[.int .i64 x1, .int .i64 x2] 50)
  have bel2 := (Below.refl w1.heap.size w1).alloc (Nat.le_refl _) (.cells #[.int .i64 x1, .int .i64 x2] 50)
  generalize w1.alloc _ = w2 at *
  have O2 := Lib.hid (O1.out.later bel2)
  have B2 := Lib.hid bel2
  have R2 := Lib.hid row2
  have BB2 := Lib.hid (BB1.out.trans (bel2.mono (show B ≤ w1.heap.size by obtain ⟨_, _, ho, _⟩ := O1.out; exact ho.base)))
  obtain ⟨c0, c1, c2, c3, c4, c5, c6, c7, c8⟩ := cells9 ((bel2.block _ (lt_row R1.out)).trans R1.out)
  have p0 : w2.cell? ⟨w1.heap.size, 0, none⟩ = some (.int .i64 x1) := by rw [cell_of_row _ _ _ _ _ _ row2]; rfl
  have p1 : w2.cell? ⟨w1.heap.size, 1, none⟩ = some (.int .i64 x2) := by rw [cell_of_row _ _ _ _ _ _ row2]; rfl
  have AN := Lib.hid (appendN4 x2 N ((n : Int) - 1) (x2 - x1) (by unfold MX; omega) HN.out (by unfold MX; omega) (by unfold MX; omega) w2 O2.out (by omega) (fun w' hb => TB.out w' (BB2.out.trans hb)))
  clear row2 bel2 q0 q1
  have hn1' : (1 : Int) ≤ (n : Int) := by omega
  have hn64' : (n : Int) ≤ 64 := by omega
  go_wp2_with fail
  with_reducible refine AN.out.mono ?_
  rintro e w3 ⟨v3, rfl, ho3, hg3⟩
  have ne2 : bv.ownBlock ≠ some w1.heap.size := fun e => by have := (O1.out.lt e).2; omega
  have ne1 : bv.ownBlock ≠ some w.heap.size := fun e => by have := (OW.out.lt e).2; omega
  have R3 := Lib.hid ((hg3.block (lt_row R2.out) ne2).trans R2.out)
  have K3 := Lib.hid ((hg3.block (k := w.heap.size) (Nat.lt_of_lt_of_le (lt_row R1.out) B2.out.size) ne1).trans ((B2.out.block _ (lt_row R1.out)).trans R1.out))
  rw [← HX1.out, ← HX2.out, ← HH.out, T0.out] at ho3
  have O3 := Lib.hid ho3
  have G3 := Lib.hid ((GrownV.of_below bv (B2.out)).trans hg3)
  have BB3 := Lib.hid (BB1.out.trans (O1.out.belowV G3.out))
  clear ho3 hg3 AN c0 c1 c2 c3 c4 c5 c6 c7 c8 p0 p1 ne1 ne2
  have p0 : w3.cell? ⟨w1.heap.size, 0, none⟩ = some (.int .i64 x1) := by rw [cell_of_row _ _ _ _ _ _ R3.out]; rfl
  have p1 : w3.cell? ⟨w1.heap.size, 1, none⟩ = some (.int .i64 x2) := by rw [cell_of_row _ _ _ _ _ _ R3.out]; rfl
  go_upto_region 4 with (fail)
  have row4 := heap_alloc_last w3 (.cells #[.int .i64 x1, .int .i64 x2] 50)
  have bel4 := (Below.refl w3.heap.size w3).alloc (Nat.le_refl _) (.cells #[.int .i64 x1, .int .i64 x2] 50)
  generalize w3.alloc _ = w4 at *
  have R4 := Lib.hid row4
  have O4 := Lib.hid (O3.out.later bel4)
  have G4 := Lib.hid (G3.out.trans (GrownV.of_below _ bel4))
  obtain ⟨c0, c1, c2, c3, c4, c5, c6, c7, c8⟩ := cells9 ((bel4.block _ (lt_row K3.out)).trans K3.out)
  have S3 := Lib.hid (show w1.heap.size ≤ w3.heap.size from G3.out.grown.size)
  clear row4 bel4 p0 p1
  obtain ⟨a', hsl, ha'⟩ := run_behind (some ⟨b, o, none⟩) n c hn1 hnc
  have HA' := Lib.hid ha'
  clear ha'
  go_upto_region 5 with (fail)
  clear hsl c0 c1 c2 c3 c4 c5 c6 c7 c8
  go_loopw [1, 34] (fun s1 s34 wr => ∃ (i : Nat), i ≤ n - 1 ∧ s34 = .int .i64 (i : Int) ∧ OwnS B s1 (S ++ numsT (headL N A ++ gapL A i)) wr ∧ GrownV w1 wr bv s1 ∧ wr.heap[w3.heap.size]? = some (.cells #[.int .i64 (A.getD i (0, 0)).1, .int .i64 (A.getD i (0, 0)).2] 50 (0, 0))) (fun _ s34 _ => n - 1 - (intOf s34).toNat)
  case atStart => exact ⟨0, by omega, rfl, O4.out, G4.out, by rw [HX1.out, HX2.out]; exact R4.out⟩
  case round =>
    obtain ⟨i, hi, rfl, ho, hg, hr⟩ := hrel
    have OO := Lib.hid ho
    have GG := Lib.hid hg
    have RR := Lib.hid hr
    clear ho hg hr O3 O4 G3 G4 R3 R4 K3
    by_cases hin : i < n - 1
    · have hinI : (i : Int) < ((n - 1 : Nat) : Int) := by omega
      have ha2 := HA'.out (by omega)
      rw [Option.map_some, addr_add] at ha2
      subst ha2
      have BBr := Lib.hid (BB1.out.trans (O1.out.belowV GG.out))
      obtain ⟨q0, q1⟩ := CA.out (i + 1) (by omega) wr BBr.out
      rw [show o + (i + 1) * 2 = o + 2 + i * 2 by omega] at q0 q1
      obtain ⟨g1, g2, g3⟩ := FA.out (i + 1) (by omega)
      obtain ⟨e1, e2, e3⟩ := FA.out i (by omega)
      have nx := FN.out i (by omega)
      have th := TH.out i
      have rr := RR.out
      obtain ⟨s1, hs1⟩ : ∃ x, (A.getD (i + 1) (0, 0)).1 = x := ⟨_, rfl⟩
      obtain ⟨s2, hs2⟩ : ∃ x, (A.getD (i + 1) (0, 0)).2 = x := ⟨_, rfl⟩
      obtain ⟨y1, hy1⟩ : ∃ x, (A.getD i (0, 0)).1 = x := ⟨_, rfl⟩
      obtain ⟨y2, hy2⟩ : ∃ x, (A.getD i (0, 0)).2 = x := ⟨_, rfl⟩
      rw [hs1] at q0 g1 g2 th
      rw [hs2] at q1 g2 g3 nx th
      rw [hy1] at rr e1 e2 nx th
      rw [hy2] at rr e2 e3
      have H1 := Lib.hid hs1
      have H2 := Lib.hid hs2
      have THI := Lib.hid th
      have RI := Lib.hid rr
      unfold MX at g3 e3
      clear hs1 hs2 hy1 hy2 th rr RR
      go_upto_region 7 with (fail)
      have row5 := heap_alloc_last wr (.cells #[.int .i64 s1, .int .i64 s2] 50)
      have bel5 := (Below.refl wr.heap.size wr).alloc (Nat.le_refl _) (.cells #[.int .i64 s1, .int .i64 s2] 50)
      generalize wr.alloc _ = w5 at *
      have O5 := Lib.hid (OO.out.later bel5)
      have R5 := Lib.hid row5
      have B5 := Lib.hid bel5
      have I5 := Lib.hid ((bel5.block _ (lt_row RI.out)).trans RI.out)
      have BB5 := Lib.hid (BBr.out.trans (bel5.mono (show B ≤ wr.heap.size by obtain ⟨_, _, ho, _⟩ := OO.out; exact ho.base)))
      have p0 : w5.cell? ⟨wr.heap.size, 0, none⟩ = some (.int .i64 s1) := by rw [cell_of_row _ _ _ _ _ _ row5]; rfl
      have p1 : w5.cell? ⟨wr.heap.size, 1, none⟩ = some (.int .i64 s2) := by rw [cell_of_row _ _ _ _ _ _ row5]; rfl
      have p2 : w5.cell? ⟨w3.heap.size, 0, none⟩ = some (.int .i64 y1) := by rw [cell_of_row _ _ _ _ _ _ I5.out]; rfl
      have AN2 := Lib.hid (appendN2 (y1 - s2 - 2) (s2 - s1) (by unfold MX; omega) (by unfold MX; omega) w5 O5.out (TS.out i (by omega)) (fun w' hb => TB.out w' (BB5.out.trans hb)))
      have ne5 := O5.out.not R5.out (by decide)
      have neI := O5.out.not I5.out (by decide)
      have NE5 := Lib.hid ne5
      have NEI := Lib.hid neI
      clear row5 bel5 q0 q1 ne5 neI
      go_wp2_with fail
      with_reducible refine AN2.out.mono ?_
      rintro e w6 ⟨v6, rfl, ho6, hg6⟩
      have R6 := Lib.hid ((hg6.block (lt_row R5.out) NE5.out).trans R5.out)
      have I6 := Lib.hid ((hg6.block (lt_row I5.out) NEI.out).trans I5.out)
      rw [THI.out] at ho6
      have O6 := Lib.hid ho6
      have G6 := Lib.hid ((GG.out.trans (GrownV.of_below _ B5.out)).trans hg6)
      clear ho6 hg6 AN2 p0 p1 p2
      have p0 : w6.cell? ⟨wr.heap.size, 0, none⟩ = some (.int .i64 s1) := by rw [cell_of_row _ _ _ _ _ _ R6.out]; rfl
      have p1 : w6.cell? ⟨wr.heap.size, 1, none⟩ = some (.int .i64 s2) := by rw [cell_of_row _ _ _ _ _ _ R6.out]; rfl
      have z0 : w6.cell? ⟨w3.heap.size, 0, none⟩ = some (.int .i64 y1) := by rw [cell_of_row _ _ _ _ _ _ I6.out]; rfl
      have z1 : w6.cell? ⟨w3.heap.size, 1, none⟩ = some (.int .i64 y2) := by rw [cell_of_row _ _ _ _ _ _ I6.out]; rfl
      have fz0 : w6.frozen? ⟨w3.heap.size, 0, none⟩ = false := frozen_of_row _ _ _ _ _ I6.out
      have fz1 : w6.frozen? ⟨w3.heap.size, 1, none⟩ = false := frozen_of_row _ _ _ _ _ I6.out
      have rs := Lib.hid (rowSet_two (c := .int .i64 s1) (d := .int .i64 s2) I6.out)
      have O7 := Lib.hid (O6.out.keepRow rs.out (O6.out.not I6.out (by decide)))
      have G7 := Lib.hid (G6.out.set S3.out rs.out)
      go_upto_region 10 with (fail)
      case roundEnd =>
        exact ⟨⟨i + 1, by omega, by first | rfl | (congr 1), O7.out, G7.out, by rw [H1.out, H2.out]; exact rs.out.row⟩, by simp only [intOf]; omega⟩
    · obtain rfl : i = n - 1 := by omega
      have hin' : ¬ ((n - 1 : Nat) : Int) < ((n - 1 : Nat) : Int) := by omega
      have FIN := Lib.hid OO.out
      rw [TE.out] at FIN
      have GF := Lib.hid ((GrownV.of_below bv B1.out).trans GG.out)
      go_wp2_with fail
      go_ret
      exact ⟨_, rfl, FIN.out, GF.out⟩
end Go.Proofs.YtcgbhcmgddgheabDoor
