/-
  FRAMES: Get.
-/
import Derived.Test.YtcgbhcmgddgheabDoorFrP
namespace Go.Proofs.YtcgbhcmgddgheabDoor
open Go Go.RowKit Go.BigFrame
set_option linter.unusedSimpArgs false
set_option linter.unusedVariables false
set_option maxRecDepth 100000
theorem partsL_nine (k : Int) (ps : List Nat) (h : partsL k = some ps) : (ps.all (fun p => p != 9) || ps.length == 1) = true := by
  unfold partsL at h
  by_cases h0 : k = 0
  · rw [if_pos h0] at h; injection h with h; subst h; rfl
  rw [if_neg h0] at h
  by_cases h1 : k = 1
  · rw [if_pos h1] at h; injection h with h; subst h; rfl
  rw [if_neg h1] at h
  by_cases h30 : k = 30
  · rw [if_pos h30] at h; injection h with h; subst h; rfl
  rw [if_neg h30] at h
  by_cases h2 : k = 2
  · rw [if_pos h2] at h; injection h with h; subst h; rfl
  rw [if_neg h2] at h
  by_cases h4 : k = 4
  · rw [if_pos h4] at h; injection h with h; subst h; rfl
  rw [if_neg h4] at h
  by_cases h5 : k = 5
  · rw [if_pos h5] at h; injection h with h; subst h; rfl
  rw [if_neg h5] at h
  by_cases h6 : k = 6
  · rw [if_pos h6] at h; injection h with h; subst h; rfl
  rw [if_neg h6] at h
  by_cases h7 : k = 7
  · rw [if_pos h7] at h; injection h with h; subst h; rfl
  rw [if_neg h7] at h
  by_cases h16 : k = 16
  · rw [if_pos h16] at h; injection h with h; subst h; rfl
  rw [if_neg h16] at h
  by_cases h20 : k = 20
  · rw [if_pos h20] at h; injection h with h; subst h; rfl
  rw [if_neg h20] at h
  by_cases h25 : k = 25
  · rw [if_pos h25] at h; injection h with h; subst h; rfl
  rw [if_neg h25] at h
  by_cases h18 : k = 18
  · rw [if_pos h18] at h; injection h with h; subst h; rfl
  rw [if_neg h18] at h
  by_cases h22 : k = 22
  · rw [if_pos h22] at h; injection h with h; subst h; rfl
  rw [if_neg h22] at h
  by_cases h17 : k = 17
  · rw [if_pos h17] at h; injection h with h; subst h; rfl
  rw [if_neg h17] at h
  by_cases h21 : k = 21
  · rw [if_pos h21] at h; injection h with h; subst h; rfl
  rw [if_neg h21] at h
  by_cases h24 : k = 24
  · rw [if_pos h24] at h; injection h with h; subst h; rfl
  rw [if_neg h24] at h
  by_cases h26 : k = 26
  · rw [if_pos h26] at h; injection h with h; subst h; rfl
  rw [if_neg h26] at h
  by_cases h27 : k = 27
  · rw [if_pos h27] at h; injection h with h; subst h; rfl
  rw [if_neg h27] at h
  by_cases h28 : k = 28
  · rw [if_pos h28] at h; injection h with h; subst h; rfl
  rw [if_neg h28] at h
  by_cases h29 : k = 29
  · rw [if_pos h29] at h; injection h with h; subst h; rfl
  rw [if_neg h29] at h
  by_cases h8 : 8 ≤ k ∧ k ≤ 15
  · rw [if_pos h8] at h
    injection h with h
    have hk : k = 8 ∨ k = 9 ∨ k = 10 ∨ k = 11 ∨ k = 12 ∨ k = 13 ∨ k = 14 ∨ k = 15 := by omega
    rcases hk with rfl | rfl | rfl | rfl | rfl | rfl | rfl | rfl
    all_goals (subst h; rfl)
  · rw [if_neg h8] at h; exact absurd h (by simp)
theorem nine_last (k : Int) (ps : List Nat) (h : partsL k = some ps) (i : Nat) (hi : i < ps.length) (h9 : ps[i] = 9) : ps.length = 1 := by
  have h1 := partsL_nine k ps h
  rw [Bool.or_eq_true] at h1
  rcases h1 with h1 | h1
  · have h2 := List.all_eq_true.1 h1 _ (List.getElem_mem hi)
    rw [h9] at h2
    exact absurd h2 (by decide)
  · simpa using h1
theorem rPart_A (F : Nat → BitVec 8) (len : Nat) (f : Fr) (s : At) (pt : Nat) (h : pt ≠ 9) : (rPart F len f s pt).1.A = f.A := by
  unfold rPart
  split <;> first | rfl | (exfalso; exact h rfl)
theorem rText_size (F : Nat → BitVec 8) (len n : Nat) (s : At) : (rText F len n s).1.size ≤ len := by
  unfold rText
  split
  · split
    · show (strOf _ n).size ≤ len; rw [strOf_size]; omega
    · exact Nat.zero_le _
  · exact Nat.zero_le _
theorem rId_size (F : Nat → BitVec 8) (len : Nat) (s : At) : (rId F len s).1.size ≤ len := by
  unfold rId
  dsimp only
  split
  · exact rText_size _ _ _ _
  · exact Nat.zero_le _
theorem rPart_size (F : Nat → BitVec 8) (len M : Nat) (f : Fr) (s : At) (pt : Nat) (hl : len ≤ M) (h : f.D.size ≤ M ∧ f.X.size ≤ M) : (rPart F len f s pt).1.D.size ≤ M ∧ (rPart F len f s pt).1.X.size ≤ M := by
  unfold rPart
  split <;> first | exact h | exact ⟨Nat.le_trans (rText_size _ _ _ _) hl, h.2⟩ | exact ⟨Nat.le_trans (rId_size _ _ _) hl, h.2⟩ | exact ⟨h.1, Nat.le_trans (rText_size _ _ _ _) hl⟩
def zeroFr : Fr := ⟨0, 0, 0, 0, 0, false, ⟨#[]⟩, ⟨#[]⟩, []⟩
def fr0 (k : Int) : Fr := if 8 ≤ k ∧ k ≤ 15 then ⟨8, 0, 0, 0, 0, decide (k % 2 = 1), ⟨#[]⟩, ⟨#[]⟩, []⟩ else ⟨k, 0, 0, 0, 0, false, ⟨#[]⟩, ⟨#[]⟩, []⟩
theorem fr0_sizes (k : Int) (M : Nat) : (fr0 k).D.size ≤ M ∧ (fr0 k).X.size ≤ M ∧ (fr0 k).A = [] := by unfold fr0; split <;> exact ⟨Nat.zero_le _, Nat.zero_le _, rfl⟩
def rParts (F : Nat → BitVec 8) (len : Nat) : List Nat → Fr → At → Fr × At
  | [], f, s => (f, s)
  | p :: l, f, s => rParts F len l (rPart F len f s p).1 (rNeed (decide (fitsF (rPart F len f s p).1 p)) (rPart F len f s p).2)
theorem rParts_drop (F : Nat → BitVec 8) (len : Nat) (ps : List Nat) (i : Nat) (h : i < ps.length) (f : Fr) (s : At) : rParts F len (ps.drop i) f s = rParts F len (ps.drop (i + 1)) (rPart F len f s ps[i]).1 (rNeed (decide (fitsF (rPart F len f s ps[i]).1 ps[i])) (rPart F len f s ps[i]).2) := by
  rw [List.drop_eq_getElem_cons h]
  rfl
/-- What Get answers: the frame, its bytes' count, the error. -/
def getR (F : Nat → BitVec 8) (len : Nat) : Fr × Nat × Int :=
  if len = 0 then (zeroFr, 0, 3) else
  match partsL ((F 0).toNat : Int) with
  | none => (zeroFr, 0, 2)
  | some ps =>
    let r := rParts F len ps (fr0 ((F 0).toNat : Int)) ⟨1, 0⟩
    let s := rNeed (decide (endsF r.1)) r.2
    if s.e = 0 then (r.1, s.p, 0) else (zeroFr, 0, s.e)
def GetPost (R : Fr × Nat × Int) (w : World) (x : Ending) (w' : World) : Prop :=
  ∃ v, x = .returned (.tuple #[.agg (R.1.cells v), .int .i64 (R.2.1 : Int), .int .i64 R.2.2]) ∧ SpansIn w' v R.1.A ∧ Below w.heap.size w w'
/-- The same, and the spans lie in memory that is new. -/
def GetOwn (R : Fr × Nat × Int) (w : World) (x : Ending) (w' : World) : Prop :=
  ∃ v, x = .returned (.tuple #[.agg (R.1.cells v), .int .i64 (R.2.1 : Int), .int .i64 R.2.2]) ∧ SpansIn w' v R.1.A ∧ Below w.heap.size w w' ∧ ∀ g, v.ownBlock = some g → w.heap.size ≤ g
theorem fr_zero : (Tryd.prog.info? 33).map (·.zero) = some (some (.agg (frC 0 0 0 0 0 false ⟨#[]⟩ ⟨#[]⟩ (.slice none 0 0)))) := by kernel_rfl
theorem frC_one (K S O N C : Int) (F : Bool) (D X : ByteArray) (a : Option Addr) (n c : Nat) : (frC K S O N C F D X (.slice a n c)).all (·.oneCell') = true := by
  simp [frC, Value.oneCell']
theorem step_store_row {P : Program} {op : Oper} {a : Act} {w : World} {K : Act → World → Prop} {Q : Exit → Act → World → Prop} (ty : TypeId) (x y : Operand) (ho : op.op = .store ty x y)
    (B : Nat) (T : TypeId) (cs cells : Array Value) (hx : a.eval x = .pointer (some ⟨B, 0, none⟩)) (hy : a.eval y = .agg cells)
    (hg : w.heap[B]? = some (.cells cs T (0, 0))) (hs : cs.size = cells.size) (hi : (P.info? ty).map (·.size) = some cells.size) (h1 : cells.all (·.oneCell') = true)
    (h : ∀ w', RowSet w B T cells w' → K (a.put op.dst undef) w') : Oper.wp P op a w K Q := by
  refine wp_store_mid ty x y ho B 0 cells hx hy (fun j hj => ?_) hi h1 (h _ (rowSet_store w B T cs cells hg hs))
  rw [Nat.zero_add]
  refine ⟨?_, frozen_of_row _ _ _ _ _ hg⟩
  rw [cell_of_row _ _ _ _ _ _ hg, Array.getElem?_eq_getElem (by omega)]
  rfl
theorem results_fr {fn : Func} {p t1 t2 : Tmp} {ty : TypeId} (hf : fn.results = #[.cell p ty, .tmp t1, .tmp t2]) (tmps : Array Value) (w : World) (g : Nat) (t : TypeId) (cs : Array Value) (fr : Nat × Nat) (d : TypeDesc)
    (hp : tmps.getD p undef = .pointer (some ⟨g, 0, none⟩)) (hg : w.heap[g]? = some (.cells cs t fr))
    (hu : Tryd.prog.underlying ty = some d) (hd : ∃ fs, d = .struct fs) (hi : (Tryd.prog.info? ty).map (·.size) = some cs.size) :
    (results fn tmps).run Tryd.prog w = .ok (.tuple #[.agg cs, tmps.getD t1 undef, tmps.getD t2 undef]) w := by
  have hp' : tmps[p]?.getD undef = .pointer (some ⟨g, 0, none⟩) := by simpa using hp
  obtain ⟨fs, rfl⟩ := hd
  simp [results, hf, hp', asAddr, run_loadVar_row w g t ty cs fr _ hg hu rfl hi]
theorem bits1 (k : Int) (h1 : 0 ≤ k) (h2 : k ≤ 255) : bits .and .i64 k 1 = k % 2 := by
  have e : bits .and .i64 k 1 = IntKind.i64.wrap ((BitVec.ofInt 64 k &&& 1#64).toNat : Int) := rfl
  rw [e, BitVec.toNat_and, BitVec.toNat_ofInt, IntKind.wrap_i64, show (1#64).toNat = 1 from rfl, Nat.and_one_is_mod]
  omega
set_option maxHeartbeats 16000000 in
theorem get_own (F : Nat → BitVec 8) (a : Option Addr) (len cap : Nat) (w : World) (hB : BytesIn w a len F) (hlc : len ≤ cap) (hcm : cap ≤ maxLen) :
    Calls Tryd.prog 12 #[.slice a len cap] w (GetOwn (getR F len) w) := by
  obtain ⟨R, hR⟩ : ∃ R, getR F len = R := ⟨_, rfl⟩
  rw [hR]
  unfold getR at hR
  have hm : len ≤ 9223372036854775807 := by unfold maxLen at hcm; omega
  have HCM := Lib.hid hcm
  have HB := Lib.hid hB
  have row0 := heap_alloc_last w (.cells (frC 0 0 0 0 0 false ⟨#[]⟩ ⟨#[]⟩ (.slice none 0 0)) 33)
  have bel0 := (Below.refl w.heap.size w).alloc (Nat.le_refl _) (.cells (frC 0 0 0 0 0 false ⟨#[]⟩ ⟨#[]⟩ (.slice none 0 0)) 33)
  go_enter Tryd.func12, Tryd.ntmps12
  go_upto_region 1 with (first
    | (refine wpList_alloc_row (o := ⟨some 2, .alloc 33, _, _, _, _⟩) rfl 33 rfl _ fr_zero ?_)
    | fail)
  generalize hwA : w.alloc _ = wA at *
  have ROW0 := Lib.hid row0
  have BEL0 := Lib.hid bel0
  clear row0 bel0 hB hcm hwA
  by_cases hl0 : len = 0
  · rw [if_pos hl0] at hR
    subst hl0 hR
    go_wp2_with (first
      | (refine wpList_store_row (op := ⟨none, .store 33 _ _, _, _, _, _⟩) rfl 33 _ _ rfl w.heap.size 33 _ (frC 0 0 0 0 0 false ⟨#[]⟩ ⟨#[]⟩ (.slice none 0 0)) rfl rfl ROW0.out rfl (by kernel_rfl) (frC_one _ _ _ _ _ _ _ _ _ _ _) ?_
         intro w9 rs
         have RS9 := Lib.hid rs
         clear rs)
      | fail)
    refine bodyPost_ret (results_fr rfl _ _ w.heap.size 33 (frC 0 0 0 0 0 false ⟨#[]⟩ ⟨#[]⟩ (.slice none 0 0)) (0, 0) _ rfl RS9.out.row Tryd.underlying33 ⟨_, rfl⟩ (by kernel_rfl)) rfl ?_
    exact ⟨_, rfl, SpansIn.none _, BEL0.out.trans (RS9.out.below _ (Nat.le_refl _)), fun g hg => by cases hg⟩
  rw [if_neg hl0] at hR
  obtain ⟨bb, oo, rfl, hbb, hcell⟩ := HB.out.2.resolve_left hl0
  have cb := (BEL0.out.cell (p := ⟨bb, oo, none⟩) hbb).trans (show w.cell? ⟨bb, oo, none⟩ = _ from hcell 0 (by omega))
  rw [n8_nat] at cb
  have hkl := (F 0).isLt
  obtain ⟨k, hk⟩ : ∃ k : Int, ((F 0).toNat : Int) = k := ⟨_, rfl⟩
  have hk0 : 0 ≤ k := by omega
  have hk255 : k ≤ 255 := by omega
  rw [hk] at cb hR
  have hwk : wrap64 k = k := by unfold wrap64; omega
  have e0 : ((len : Int) == 0) = false := by rw [beq_eq_false_iff_ne]; omega
  have hl1 : (0 : Int) < (len : Int) := by omega
  have HBB := Lib.hid hbb
  have PA := Lib.hid (fun (w' : World) => partsOf_any k (by omega) (by omega) w')
  have HR := Lib.hid hR
  clear hR hcell hk hkl hbb
  go_upto_region 4 with (fail)
  go_wp2_with fail
  with_reducible refine (PA.out wA).mono ?_
  rintro x wB ⟨hpost, hbB⟩
  have BELB := Lib.hid hbB
  have ROWB := Lib.hid ((hbB.block _ (lt_row ROW0.out)).trans ROW0.out)
  clear hbB PA cb
  cases hpl : partsL k with
  | none =>
    rw [hpl] at hpost
    have hR := HR.out
    rw [hpl] at hR
    dsimp only at hpost hR
    subst hpost hR
    go_wp2_with (first
      | (refine wpList_store_row (op := ⟨none, .store 33 _ _, _, _, _, _⟩) rfl 33 _ _ rfl w.heap.size 33 _ (frC 0 0 0 0 0 false ⟨#[]⟩ ⟨#[]⟩ (.slice none 0 0)) rfl rfl ROWB.out rfl (by kernel_rfl) (frC_one _ _ _ _ _ _ _ _ _ _ _) ?_
         intro w9 rs
         have RS9 := Lib.hid rs
         clear rs)
      | fail)
    refine bodyPost_ret (results_fr rfl _ _ w.heap.size 33 (frC 0 0 0 0 0 false ⟨#[]⟩ ⟨#[]⟩ (.slice none 0 0)) (0, 0) _ rfl RS9.out.row Tryd.underlying33 ⟨_, rfl⟩ (by kernel_rfl)) rfl ?_
    exact ⟨_, rfl, SpansIn.none _, (BEL0.out.trans (BELB.out.mono BEL0.out.size)).trans (RS9.out.below _ (Nat.le_refl _)), fun g hg => by cases hg⟩
  | some ps =>
  rw [hpl] at hpost
  have hR := HR.out
  rw [hpl] at hR
  dsimp only at hpost hR
  have HR2 := Lib.hid hR
  obtain ⟨pv, rfl, hpi⟩ := hpost
  obtain ⟨ps10, pslen, _, _⟩ := partsL_10 k ps hpl
  have HP10 := Lib.hid (fun (i : Nat) (hi : i < ps.length) => ps10 _ (List.getElem_mem hi))
  have NINE := Lib.hid (nine_last k ps hpl)
  obtain ⟨a2, c2, rfl, hc2, hat⟩ := hpi.at_
  have HAT := Lib.hid hat
  clear hat hpi ps10 hpl HR hR
  obtain ⟨n, hn⟩ : ∃ n, ps.length = n := ⟨_, rfl⟩
  have HN := Lib.hid hn
  rw [hn] at hc2 pslen ⊢
  have hn63 : n ≤ 4 := pslen
  have hc63 : c2 ≤ 9223372036854775807 := by have := hc2.2; unfold maxLen at this; omega
  have hnc := hc2.1
  clear hn hc2 pslen
  have rowf := heap_alloc_last wB (.cells #[.int .i64 k, .int .i64 0, .int .i64 0, .int .i64 0, .int .i64 0, .bool false, .string ⟨#[]⟩, .string ⟨#[]⟩, .slice none 0 0] 33)
  have belf := (Below.refl wB.heap.size wB).alloc (Nat.le_refl _) (.cells #[.int .i64 k, .int .i64 0, .int .i64 0, .int .i64 0, .int .i64 0, .bool false, .string ⟨#[]⟩, .string ⟨#[]⟩, .slice none 0 0] 33)
  go_upto_region 8 with (fail)
  generalize wB.alloc _ = wC at *
  have BELC := Lib.hid belf
  clear belf
  have b7 := bits7 k (by omega) (by omega)
  have b1 := bits1 k hk0 hk255
  by_cases h8 : 8 ≤ k ∧ k ≤ 15
  · have e7 : (bits .andNot .i64 k 7 == 8) = true := by rw [b7.2 h8]; rfl
    obtain ⟨fv, hfv⟩ : ∃ fv, decide (k % 2 = 1) = fv := ⟨_, rfl⟩
    have e1 : (bits .and .i64 k 1 != 0) = fv := by
      rw [b1, ← hfv]
      by_cases h2 : k % 2 = 1
      · rw [h2]; rfl
      · rw [show k % 2 = 0 by omega]; rfl
    have FR0 := Lib.hid (show fr0 k = ⟨8, 0, 0, 0, 0, fv, ⟨#[]⟩, ⟨#[]⟩, []⟩ by unfold fr0; rw [if_pos h8, hfv])
    obtain ⟨c0, c1, c2', c3, c4, c5, c6, c7, c8⟩ := cells9 rowf
    have f0 : wC.frozen? ⟨wB.heap.size, 0, none⟩ = false := frozen_of_row _ _ _ _ _ rowf
    have f5 : wC.frozen? ⟨wB.heap.size, 5, none⟩ = false := frozen_of_row _ _ _ _ _ rowf
    have r1 := rowSet_cell wC wB.heap.size 0 _ _ (.int .i64 8) rowf
    have r2 := rowSet_cell _ wB.heap.size 5 _ _ (.bool fv) r1.row
    have RSD := Lib.hid (show RowSet wC wB.heap.size 33 ((fr0 k).cells (.slice none 0 0)) _ by rw [FR0.out]; exact ⟨r2.row, fun q hq => (r2.other q hq).trans (r1.other q hq), r2.size.trans r1.size, fun b hb => (r1.below b hb).trans (r2.below b hb)⟩)
    clear b1 b7 hfv h8 r1 r2 rowf c1 c2' c3 c4 c6 c7 c8
    go_upto_region 10 with (fail)
    clear c0 c5 f0 f5 e7 e1
    generalize World.setCell _ _ _ = wD at *
    have SZB := lt_row ROWB.out
    have X0 := Lib.hid ((RSD.out.other w.heap.size (by omega)).trans ((BELC.out.block _ SZB).trans ROWB.out))
    have XF := Lib.hid RSD.out.row
    have XC := Lib.hid (show Below w.heap.size w wD from (BEL0.out.trans (BELB.out.mono BEL0.out.size)).trans ((BELC.out.mono (by omega)).trans (RSD.out.below _ (by omega))))
    have XB := Lib.hid (show Below wB.heap.size wB wD from BELC.out.trans (RSD.out.below _ (Nat.le_refl _)))
    have SZD := lt_row XF.out
    have rowr := heap_alloc_last wD (.cells #[.slice (some ⟨bb, oo, none⟩) len cap, .int .i64 1, .int .i64 0] 64)
    have belr := (Below.refl wD.heap.size wD).alloc (Nat.le_refl _) (.cells #[.slice (some ⟨bb, oo, none⟩) len cap, .int .i64 1, .int .i64 0] 64)
    clear RSD FR0
    go_upto_region 12 with (fail)
    generalize wD.alloc _ = wE at *
    have XFE := Lib.hid ((belr.block _ SZD).trans XF.out)
    have X0E := Lib.hid ((belr.block _ (by omega)).trans X0.out)
    have XBE := Lib.hid (XB.out.trans (belr.mono (by omega)))
    have XCE := Lib.hid (XC.out.trans (belr.mono (by omega)))
    have bbl := HBB.out
    have RD := Lib.hid (show Rd wE wD.heap.size (some ⟨bb, oo, none⟩) len cap F 1 0 from ⟨rowr, bytesIn_later HB.out XCE.out, hlc, HCM.out, by omega, fun x hx => by injection hx with hx; subst hx; show bb ≠ wD.heap.size; omega⟩)
    have HNE : wD.heap.size ≠ wB.heap.size := by omega
    have HOF := Lib.hid (show ∀ x : Addr, some (⟨bb, oo, none⟩ : Addr) = some x → x.block ≠ wB.heap.size from fun x hx => by injection hx with hx; subst hx; show bb ≠ wB.heap.size; omega)
    clear rowr belr X0 XF XC XB
    go_loopw [43] (fun s43 wr => ∃ (i : Nat) (f : Fr) (v' : Value) (s : At), i ≤ n ∧ s43 = .int .i64 (i : Int) ∧ rParts F len (ps.drop i) f s = rParts F len ps (fr0 k) ⟨1, 0⟩ ∧ Rd wr wD.heap.size (some ⟨bb, oo, none⟩) len cap F s.p s.e ∧ wr.heap[wB.heap.size]? = some (.cells (f.cells v') 33 (0, 0)) ∧ SpansIn wr v' f.A ∧ (∀ g, v'.ownBlock = some g → wD.heap.size < g) ∧ (i < n → f.A = [] ∧ v' = .slice none 0 0) ∧ (f.D.size ≤ maxLen ∧ f.X.size ≤ maxLen) ∧ Chg2 wD.heap.size wB.heap.size wE wr) (fun s43 _ => n - (intOf s43).toNat)
    case atStart => exact ⟨0, fr0 k, .slice none 0 0, ⟨1, 0⟩, by omega, rfl, by rw [List.drop_zero], RD.out, XFE.out, by rw [(fr0_sizes k 0).2.2]; exact SpansIn.none _, (fun g hg => by cases hg), fun _ => ⟨(fr0_sizes k 0).2.2, rfl⟩, ⟨(fr0_sizes k maxLen).1, (fr0_sizes k maxLen).2.1⟩, Chg2.refl _ _ _⟩
    case round =>
      obtain ⟨i, f, v', s, hi, rfl, hrp, hrd, hrow, hsp, hob, hnil, hsz, hch⟩ := hrel
      have HOB := Lib.hid hob
      have HRP := Lib.hid hrp
      have HRD := Lib.hid hrd
      have HROW := Lib.hid hrow
      have HSP := Lib.hid hsp
      have HSZ := Lib.hid hsz
      have HCH := Lib.hid hch
      clear hrp hrd hrow hsp hsz hch hob
      by_cases hin : i < n
      · have hinI : (i : Int) < (n : Int) := by omega
        have hip : i < ps.length := by rw [HN.out]; exact hin
        obtain ⟨hA, rfl⟩ := hnil hin
        obtain h0 | ⟨pb, po, rfl, hpb, hpc⟩ := HAT.out
        · rw [h0] at hip; exact absurd hip (Nat.not_lt_zero _)
        have BW := Lib.hid (XBE.out.trans (HCH.out.below (by omega) (Nat.le_refl _) (by have := XBE.out.size; omega)))
        have cp := (BW.out.cell (p := ⟨pb, po + i, none⟩) hpb).trans (hpc i hip)
        have hp10 := HP10.out i hip
        have hnine := NINE.out i hip
        have hdrop := rParts_drop F len ps i hip f s
        have hpa := rPart_A F len f s ps[i]
        have hps := rPart_size F len maxLen f s ps[i] (Nat.le_trans hlc HCM.out) HSZ.out
        obtain ⟨p, hp⟩ : ∃ p, ps[i] = p := ⟨_, rfl⟩
        rw [hp] at cp hp10 hnine hdrop hpa hps
        have PT := Lib.hid (part_any HRD.out f hA HROW.out HNE HOF.out p hp10)
        obtain ⟨Q, hQ⟩ : ∃ Q, rPart F len f ⟨s.p, s.e⟩ p = Q := ⟨_, rfl⟩
        rw [show (⟨s.p, s.e⟩ : At) = s from rfl] at hQ PT
        rw [hQ] at hdrop hpa hps PT
        have NEXT := Lib.hid (hdrop.symm.trans HRP.out)
        have HPA := Lib.hid (fun (h : p ≠ 9) => (hpa h).trans hA)
        have HPS := Lib.hid hps
        have HNI := Lib.hid hnine
        clear hp hdrop hpa hps hQ hpb hpc hnil hnine
        go_upto_region 14 with (fail)
        go_wp2_with fail
        with_reducible refine PT.out.mono ?_
        rintro x w1 ⟨rfl, v1, h1, f1, s1, g1, nil1, o1⟩
        have OB1 := Lib.hid (fun (g : Nat) (hg : v1.ownBlock = some g) => (show wD.heap.size < g by have := o1 g hg; have := lt_row HRD.out.row; omega))
        obtain ⟨⟨kd, S, O, N, C, Fi, D, X, A⟩, q1⟩ := Q
        dsimp only [Fr.cells] at f1
        unfold frC at f1
        have FT := Lib.hid (fits_any ⟨kd, S, O, N, C, Fi, D, X, A⟩ v1 p hp10 w1 s1 HPS.out.1 HPS.out.2)
        have H1 := Lib.hid h1
        have F1 := Lib.hid f1
        have S1 := Lib.hid s1
        have G1 := Lib.hid (HCH.out.trans g1)
        have NIL1 := Lib.hid nil1
        obtain ⟨c0, c1, c2', c3, c4, c5, c6, c7, c8⟩ := cells9 f1
        clear h1 f1 s1 g1 nil1 o1 PT cp
        dsimp only [Fr.cells] at FT
        unfold frC at FT
        obtain ⟨ok, hok⟩ : ∃ ok, decide (fitsF ⟨kd, S, O, N, C, Fi, D, X, A⟩ p) = ok := ⟨_, rfl⟩
        rw [hok] at FT
        have HOK := Lib.hid hok
        clear hok
        go_wp2_with fail
        with_reducible refine FT.out.mono ?_
        rintro x w2 ⟨rfl, hb2⟩
        have NE2 := Lib.hid (need_any (H1.out.below hb2) ok)
        have F2 := Lib.hid ((hb2.block _ (lt_row F1.out)).trans F1.out)
        have S2 := Lib.hid (S1.out.later hb2)
        have G2 := Lib.hid (G1.out.trans (Chg2.of_below hb2))
        clear hb2 FT c0 c1 c2' c3 c4 c5 c6 c7 c8
        go_wp2_with fail
        with_reducible refine NE2.out.mono ?_
        rintro x w3 ⟨rfl, h3, g3⟩
        have H3 := Lib.hid h3
        have F3 := Lib.hid (g3.row HNE.symm F2.out)
        have G3 := Lib.hid (G2.out.trans g3.left)
        have S3 := Lib.hid (S2.out.chg g3 (fun e => Nat.lt_irrefl _ (OB1.out _ e)))
        clear h3 g3 NE2
        go_wp2_with fail
        go_roundw
        case rel =>
          exact ⟨i + 1, ⟨kd, S, O, N, C, Fi, D, X, A⟩, v1, rNeed ok q1, by omega, by first | rfl | (congr 1), by rw [← HOK.out]; exact NEXT.out, H3.out, F3.out, S3.out, OB1.out, fun hi2 => (by
            by_cases h9 : p = 9
            · have := HNI.out h9; have := HN.out; omega
            · exact ⟨HPA.out h9, NIL1.out h9⟩), HPS.out, G3.out⟩
        case measure => (simp [intOf] <;> omega)
      · obtain rfl : i = n := by omega
        have hinI : ¬ (i : Int) < (i : Int) := by omega
        have FIN := Lib.hid (show rParts F len ps (fr0 k) ⟨1, 0⟩ = (f, s) by rw [← HRP.out, List.drop_of_length_le (by rw [HN.out]; exact Nat.le_refl _)]; rfl)
        have hR := HR2.out
        rw [FIN.out] at hR
        have EN := Lib.hid (fun (w' : World) => endsInTime_any f v' w' HSZ.out.1)
        obtain ⟨av, cv, rfl, _, _⟩ := HSP.out.at_
        obtain ⟨kd, S, O, N, C, Fi, D, X, A⟩ := f
        dsimp only [Fr.cells] at HROW EN hR
        unfold frC at HROW EN
        obtain ⟨ok, hok⟩ : ∃ ok, decide (endsF ⟨kd, S, O, N, C, Fi, D, X, A⟩) = ok := ⟨_, rfl⟩
        rw [hok] at EN hR
        obtain ⟨s3, hs3⟩ : ∃ s3, rNeed ok s = s3 := ⟨_, rfl⟩
        rw [hs3] at hR
        have HS3 := Lib.hid hs3
        have HRR := Lib.hid hR
        obtain ⟨c0, c1, c2', c3, c4, c5, c6, c7, c8⟩ := cells9 HROW.out
        clear hok hs3 hR hnil
        go_wp2_with fail
        with_reducible refine (EN.out wr).mono ?_
        rintro x w2 ⟨rfl, hb2⟩
        have NE2 := Lib.hid (need_any (HRD.out.below hb2) ok)
        have F2 := Lib.hid ((hb2.block _ (lt_row HROW.out)).trans HROW.out)
        have S2 := Lib.hid (HSP.out.later hb2)
        have G2 := Lib.hid (HCH.out.trans (Chg2.of_below hb2))
        clear hb2 EN c0 c1 c2' c3 c4 c5 c6 c7 c8
        go_wp2_with fail
        with_reducible refine NE2.out.mono ?_
        rintro x w3 ⟨rfl, h3, g3⟩
        rw [show (⟨s.p, s.e⟩ : At) = s from rfl, HS3.out] at h3
        have F3 := Lib.hid (g3.row HNE.symm F2.out)
        have G3 := Lib.hid (G2.out.trans g3.left)
        have S3 := Lib.hid (S2.out.chg g3 (fun e => Nat.lt_irrefl _ (HOB.out _ e)))
        have X3 := Lib.hid ((G3.out.block w.heap.size (lt_row X0E.out) (by omega) (by omega)).trans X0E.out)
        have B3 := Lib.hid (XCE.out.trans (G3.out.below (by omega) (by omega) XCE.out.size))
        obtain ⟨p3, e3⟩ := s3
        dsimp only at h3
        have H3 := Lib.hid h3
        have hRR := HRR.out
        dsimp only at hRR
        obtain ⟨d0, d1, d2⟩ := cells3 h3.row
        obtain ⟨c0, c1, c2', c3, c4, c5, c6, c7, c8⟩ := cells9 F3.out
        clear h3 g3 NE2
        by_cases he : e3 = 0
        · rw [if_pos he] at hRR
          subst he hRR
          go_upto_region 20 with (fail)
          have HS : Hid ((fun w' : World => w'.heap[wB.heap.size]? = some (.cells (frC kd S O N C Fi D X (.slice av A.length cv)) 33 (0, 0)) ∧ w'.cell? ⟨wD.heap.size, 1, none⟩ = some (.int .i64 (p3 : Int))) w3.drew) := Lib.hid ⟨F3.out, d1⟩
          clear c0 c1 c2' c3 c4 c5 c6 c7 c8 d0 d1 d2
          refine wp_region_held_drew (S := fun w' : World => w'.heap[wB.heap.size]? = some (.cells (frC kd S O N C Fi D X (.slice av A.length cv)) 33 (0, 0)) ∧ w'.cell? ⟨wD.heap.size, 1, none⟩ = some (.int .i64 (p3 : Int))) mixedOrders HS.out (fun hHeld => ?_)
          clear hHeld
          refine wpAnyH_take (i := 0) (oi := ⟨some 70, _, _, _, _, _⟩) (v := .agg (frC kd S O N C Fi D X (.slice av A.length cv))) rfl (by kernel_rfl) (by kernel_rfl) (by kernel_rfl) (fun _ _ _ h => h) (Or.inl ⟨by rfl, fun w' hSw => ?_⟩) HS.out ?_
          · obtain ⟨k0, k1, k2, k3, k4, k5, k6, k7, k8⟩ := cells9 (show w'.heap[wB.heap.size]? = some (.cells #[.int .i64 kd, .int .i64 S, .int .i64 O, .int .i64 N, .int .i64 C, .bool Fi, .string D, .string X, .slice av A.length cv] 33 (0, 0)) from hSw.1)
            clear hSw
            unfold frC
            go_simp
          simp only [Act.put, List.setIfInBounds_toArray, List.set_cons_succ, List.set_cons_zero]
          refine wpAnyH_take (i := 1) (oi := ⟨some 71, _, _, _, _, _⟩) (v := .pointer (some ⟨wD.heap.size, 0, none⟩)) rfl (by kernel_rfl) (by kernel_rfl) (by kernel_rfl) (fun _ _ _ h => h) (Or.inl ⟨by rfl, fun w' hSw => ?_⟩) HS.out ?_
          · go_simp
          simp only [Act.put, List.setIfInBounds_toArray, List.set_cons_succ, List.set_cons_zero]
          refine wpAnyH_take (i := 2) (oi := ⟨some 72, _, _, _, _, _⟩) (v := .pointer (some ⟨wD.heap.size, 0, none⟩)) rfl (by kernel_rfl) (by kernel_rfl) (by kernel_rfl) (fun _ _ _ h => h) (Or.inl ⟨by rfl, fun w' hSw => ?_⟩) HS.out ?_
          · go_simp
          simp only [Act.put, List.setIfInBounds_toArray, List.set_cons_succ, List.set_cons_zero]
          refine wpAnyH_take (i := 3) (oi := ⟨some 73, _, _, _, _, _⟩) (v := .pointer (some ⟨wD.heap.size, 1, none⟩)) rfl (by kernel_rfl) (by kernel_rfl) (by kernel_rfl) (fun _ _ _ h => h) (Or.inl ⟨by rfl, fun w' hSw => ?_⟩) HS.out ?_
          · go_simp
          simp only [Act.put, List.setIfInBounds_toArray, List.set_cons_succ, List.set_cons_zero]
          refine wpAnyH_take (i := 4) (oi := ⟨some 74, _, _, _, _, _⟩) (v := .int .i64 (p3 : Int)) rfl (by kernel_rfl) (by kernel_rfl) (by kernel_rfl) (fun _ _ _ h => h) (Or.inl ⟨by rfl, fun w' hSw => ?_⟩) HS.out ?_
          · have c := hSw.2
            clear hSw
            go_simp
          simp only [Act.put, List.setIfInBounds_toArray, List.set_cons_succ, List.set_cons_zero]
          refine wpAnyH_ready (rs := [5]) (by kernel_rfl) (by simp) ?_
          refine AllReadyH.cons (i := 5) rfl (fun K hK => ?_) AllReadyH.nil
          rw [if_pos (by rfl)]
          refine step_store_row 33 _ _ rfl w.heap.size 33 (frC 0 0 0 0 0 false ⟨#[]⟩ ⟨#[]⟩ (.slice none 0 0)) (frC kd S O N C Fi D X (.slice av A.length cv)) rfl rfl X3.out rfl (by kernel_rfl) (frC_one _ _ _ _ _ _ _ _ _ _ _) ?_
          intro w9 rs
          have RS9 := Lib.hid rs
          have HS9 := Lib.hid (show w9.heap[wB.heap.size]? = some (.cells (frC kd S O N C Fi D X (.slice av A.length cv)) 33 (0, 0)) ∧ w9.cell? ⟨wD.heap.size, 1, none⟩ = some (.int .i64 (p3 : Int)) from ⟨(rs.other _ (by omega)).trans HS.out.1, (World.cell?_of_block (w := w3.drew) (h := rs.other wD.heap.size (by omega))).trans HS.out.2⟩)
          clear rs
          refine hK.out _ _ HS9.out (fun _ => ?_)
          clear hK K HS
          have HS := HS9
          try simp only [Act.put, List.setIfInBounds_toArray, List.set_cons_succ, List.set_cons_zero]
          refine wpAnyH_take (i := 6) (oi := ⟨some 3, _, _, _, _, _⟩) (v := .int .i64 (p3 : Int)) rfl (by kernel_rfl) (by kernel_rfl) (by kernel_rfl) (fun _ _ _ h => h) (Or.inl ⟨by rfl, fun w' hSw => ?_⟩) HS.out ?_
          · go_simp
          simp only [Act.put, List.setIfInBounds_toArray, List.set_cons_succ, List.set_cons_zero]
          refine wpAnyH_take (i := 7) (oi := ⟨some 4, _, _, _, _, _⟩) (v := .int .i64 0) rfl (by kernel_rfl) (by kernel_rfl) (by kernel_rfl) (fun _ _ _ h => h) (Or.inl ⟨by rfl, fun w' hSw => ?_⟩) HS.out ?_
          · go_simp
          simp only [Act.put, List.setIfInBounds_toArray, List.set_cons_succ, List.set_cons_zero]
          refine wpAnyH_done (by kernel_rfl) ?_ _
          go_wp2_with fail
          refine bodyPost_ret (results_fr rfl _ _ w.heap.size 33 (frC kd S O N C Fi D X (.slice av A.length cv)) (0, 0) _ rfl RS9.out.row Tryd.underlying33 ⟨_, rfl⟩ (by kernel_rfl)) rfl ?_
          have B4 := Lib.hid (B3.out.trans ((Below.refl _ _).drew.trans (RS9.out.below _ (Nat.le_refl _))))
          exact ⟨_, rfl, (S3.out.later (Below.refl _ _).drew).chg RS9.out.chg (fun e => by have := HOB.out _ e; omega), B4.out, fun g hg => by have h1 := HOB.out g hg; have h2 := XCE.out.size; omega⟩
        · rw [if_neg he] at hRR
          have ene : (e3 != 0) = true := by simp [he]
          subst hRR
          clear he
          go_upto_region 19 with (fail)
          have HS : Hid ((fun w' : World => w'.cell? ⟨wD.heap.size, 2, none⟩ = some (.int .i64 e3)) w3.drew) := Lib.hid d2
          clear c0 c1 c2' c3 c4 c5 c6 c7 c8 d0 d1 d2 ene
          refine wp_region_held_drew (S := fun w' : World => w'.cell? ⟨wD.heap.size, 2, none⟩ = some (.int .i64 e3)) mixedOrders HS.out (fun hHeld => ?_)
          clear hHeld
          refine wpAnyH_take (i := 0) (oi := ⟨some 65, _, _, _, _, _⟩) (v := .agg (frC 0 0 0 0 0 false ⟨#[]⟩ ⟨#[]⟩ (.slice none 0 0))) rfl (by kernel_rfl) (by kernel_rfl) (by kernel_rfl) (fun _ _ _ h => h) (Or.inl ⟨by rfl, fun w' hSw => ?_⟩) HS.out ?_
          · clear hSw
            go_simp
            rfl
          simp only [Act.put, List.setIfInBounds_toArray, List.set_cons_succ, List.set_cons_zero]
          refine wpAnyH_take (i := 1) (oi := ⟨some 66, _, _, _, _, _⟩) (v := .pointer (some ⟨wD.heap.size, 0, none⟩)) rfl (by kernel_rfl) (by kernel_rfl) (by kernel_rfl) (fun _ _ _ h => h) (Or.inl ⟨by rfl, fun w' hSw => ?_⟩) HS.out ?_
          · go_simp
          simp only [Act.put, List.setIfInBounds_toArray, List.set_cons_succ, List.set_cons_zero]
          refine wpAnyH_take (i := 2) (oi := ⟨some 67, _, _, _, _, _⟩) (v := .pointer (some ⟨wD.heap.size, 0, none⟩)) rfl (by kernel_rfl) (by kernel_rfl) (by kernel_rfl) (fun _ _ _ h => h) (Or.inl ⟨by rfl, fun w' hSw => ?_⟩) HS.out ?_
          · go_simp
          simp only [Act.put, List.setIfInBounds_toArray, List.set_cons_succ, List.set_cons_zero]
          refine wpAnyH_take (i := 3) (oi := ⟨some 68, _, _, _, _, _⟩) (v := .pointer (some ⟨wD.heap.size, 2, none⟩)) rfl (by kernel_rfl) (by kernel_rfl) (by kernel_rfl) (fun _ _ _ h => h) (Or.inl ⟨by rfl, fun w' hSw => ?_⟩) HS.out ?_
          · go_simp
          simp only [Act.put, List.setIfInBounds_toArray, List.set_cons_succ, List.set_cons_zero]
          refine wpAnyH_take (i := 4) (oi := ⟨some 69, _, _, _, _, _⟩) (v := .int .i64 e3) rfl (by kernel_rfl) (by kernel_rfl) (by kernel_rfl) (fun _ _ _ h => h) (Or.inl ⟨by rfl, fun w' hSw => ?_⟩) HS.out ?_
          · have c := hSw
            clear hSw
            go_simp
          simp only [Act.put, List.setIfInBounds_toArray, List.set_cons_succ, List.set_cons_zero]
          refine wpAnyH_ready (rs := [5]) (by kernel_rfl) (by simp) ?_
          refine AllReadyH.cons (i := 5) rfl (fun K hK => ?_) AllReadyH.nil
          rw [if_pos (by rfl)]
          refine step_store_row 33 _ _ rfl w.heap.size 33 (frC 0 0 0 0 0 false ⟨#[]⟩ ⟨#[]⟩ (.slice none 0 0)) (frC 0 0 0 0 0 false ⟨#[]⟩ ⟨#[]⟩ (.slice none 0 0)) rfl rfl X3.out rfl (by kernel_rfl) (frC_one _ _ _ _ _ _ _ _ _ _ _) ?_
          intro w9 rs
          have RS9 := Lib.hid rs
          have HS9 := Lib.hid (show w9.cell? ⟨wD.heap.size, 2, none⟩ = some (.int .i64 e3) from (World.cell?_of_block (w := w3.drew) (h := rs.other wD.heap.size (by omega))).trans HS.out)
          clear rs
          refine hK.out _ _ HS9.out (fun _ => ?_)
          clear hK K HS
          have HS := HS9
          try simp only [Act.put, List.setIfInBounds_toArray, List.set_cons_succ, List.set_cons_zero]
          refine wpAnyH_take (i := 6) (oi := ⟨some 3, _, _, _, _, _⟩) (v := .int .i64 0) rfl (by kernel_rfl) (by kernel_rfl) (by kernel_rfl) (fun _ _ _ h => h) (Or.inl ⟨by rfl, fun w' hSw => ?_⟩) HS.out ?_
          · go_simp
          simp only [Act.put, List.setIfInBounds_toArray, List.set_cons_succ, List.set_cons_zero]
          refine wpAnyH_take (i := 7) (oi := ⟨some 4, _, _, _, _, _⟩) (v := .int .i64 e3) rfl (by kernel_rfl) (by kernel_rfl) (by kernel_rfl) (fun _ _ _ h => h) (Or.inl ⟨by rfl, fun w' hSw => ?_⟩) HS.out ?_
          · go_simp
          simp only [Act.put, List.setIfInBounds_toArray, List.set_cons_succ, List.set_cons_zero]
          refine wpAnyH_done (by kernel_rfl) ?_ _
          go_wp2_with fail
          refine bodyPost_ret (results_fr rfl _ _ w.heap.size 33 (frC 0 0 0 0 0 false ⟨#[]⟩ ⟨#[]⟩ (.slice none 0 0)) (0, 0) _ rfl RS9.out.row Tryd.underlying33 ⟨_, rfl⟩ (by kernel_rfl)) rfl ?_
          have B4 := Lib.hid (B3.out.trans ((Below.refl _ _).drew.trans (RS9.out.below _ (Nat.le_refl _))))
          exact ⟨_, rfl, SpansIn.none _, B4.out, fun g hg => by cases hg⟩
  · have e7 : (bits .andNot .i64 k 7 == 8) = false := by rw [beq_eq_false_iff_ne]; exact fun e => h8 (b7.1 e)
    have FR0 := Lib.hid (show fr0 k = ⟨k, 0, 0, 0, 0, false, ⟨#[]⟩, ⟨#[]⟩, []⟩ by unfold fr0; rw [if_neg h8])
    have RSD := Lib.hid (show RowSet wC wB.heap.size 33 ((fr0 k).cells (.slice none 0 0)) wC by rw [FR0.out]; exact ⟨rowf, fun q hq => rfl, rfl, fun b hb => Below.refl _ _⟩)
    clear b1 b7 h8 rowf
    go_upto_region 10 with (fail)
    clear e7
    have SZB := lt_row ROWB.out
    have X0 := Lib.hid ((RSD.out.other w.heap.size (by omega)).trans ((BELC.out.block _ SZB).trans ROWB.out))
    have XF := Lib.hid RSD.out.row
    have XC := Lib.hid (show Below w.heap.size w wC from (BEL0.out.trans (BELB.out.mono BEL0.out.size)).trans ((BELC.out.mono (by omega)).trans (RSD.out.below _ (by omega))))
    have XB := Lib.hid (show Below wB.heap.size wB wC from BELC.out.trans (RSD.out.below _ (Nat.le_refl _)))
    have SZD := lt_row XF.out
    have rowr := heap_alloc_last wC (.cells #[.slice (some ⟨bb, oo, none⟩) len cap, .int .i64 1, .int .i64 0] 64)
    have belr := (Below.refl wC.heap.size wC).alloc (Nat.le_refl _) (.cells #[.slice (some ⟨bb, oo, none⟩) len cap, .int .i64 1, .int .i64 0] 64)
    clear RSD FR0
    go_upto_region 12 with (fail)
    generalize wC.alloc _ = wE at *
    have XFE := Lib.hid ((belr.block _ SZD).trans XF.out)
    have X0E := Lib.hid ((belr.block _ (by omega)).trans X0.out)
    have XBE := Lib.hid (XB.out.trans (belr.mono (by omega)))
    have XCE := Lib.hid (XC.out.trans (belr.mono (by omega)))
    have bbl := HBB.out
    have RD := Lib.hid (show Rd wE wC.heap.size (some ⟨bb, oo, none⟩) len cap F 1 0 from ⟨rowr, bytesIn_later HB.out XCE.out, hlc, HCM.out, by omega, fun x hx => by injection hx with hx; subst hx; show bb ≠ wC.heap.size; omega⟩)
    have HNE : wC.heap.size ≠ wB.heap.size := by omega
    have HOF := Lib.hid (show ∀ x : Addr, some (⟨bb, oo, none⟩ : Addr) = some x → x.block ≠ wB.heap.size from fun x hx => by injection hx with hx; subst hx; show bb ≠ wB.heap.size; omega)
    clear rowr belr X0 XF XC XB
    go_loopw [43] (fun s43 wr => ∃ (i : Nat) (f : Fr) (v' : Value) (s : At), i ≤ n ∧ s43 = .int .i64 (i : Int) ∧ rParts F len (ps.drop i) f s = rParts F len ps (fr0 k) ⟨1, 0⟩ ∧ Rd wr wC.heap.size (some ⟨bb, oo, none⟩) len cap F s.p s.e ∧ wr.heap[wB.heap.size]? = some (.cells (f.cells v') 33 (0, 0)) ∧ SpansIn wr v' f.A ∧ (∀ g, v'.ownBlock = some g → wC.heap.size < g) ∧ (i < n → f.A = [] ∧ v' = .slice none 0 0) ∧ (f.D.size ≤ maxLen ∧ f.X.size ≤ maxLen) ∧ Chg2 wC.heap.size wB.heap.size wE wr) (fun s43 _ => n - (intOf s43).toNat)
    case atStart => exact ⟨0, fr0 k, .slice none 0 0, ⟨1, 0⟩, by omega, rfl, by rw [List.drop_zero], RD.out, XFE.out, by rw [(fr0_sizes k 0).2.2]; exact SpansIn.none _, (fun g hg => by cases hg), fun _ => ⟨(fr0_sizes k 0).2.2, rfl⟩, ⟨(fr0_sizes k maxLen).1, (fr0_sizes k maxLen).2.1⟩, Chg2.refl _ _ _⟩
    case round =>
      obtain ⟨i, f, v', s, hi, rfl, hrp, hrd, hrow, hsp, hob, hnil, hsz, hch⟩ := hrel
      have HOB := Lib.hid hob
      have HRP := Lib.hid hrp
      have HRD := Lib.hid hrd
      have HROW := Lib.hid hrow
      have HSP := Lib.hid hsp
      have HSZ := Lib.hid hsz
      have HCH := Lib.hid hch
      clear hrp hrd hrow hsp hsz hch hob
      by_cases hin : i < n
      · have hinI : (i : Int) < (n : Int) := by omega
        have hip : i < ps.length := by rw [HN.out]; exact hin
        obtain ⟨hA, rfl⟩ := hnil hin
        obtain h0 | ⟨pb, po, rfl, hpb, hpc⟩ := HAT.out
        · rw [h0] at hip; exact absurd hip (Nat.not_lt_zero _)
        have BW := Lib.hid (XBE.out.trans (HCH.out.below (by omega) (Nat.le_refl _) (by have := XBE.out.size; omega)))
        have cp := (BW.out.cell (p := ⟨pb, po + i, none⟩) hpb).trans (hpc i hip)
        have hp10 := HP10.out i hip
        have hnine := NINE.out i hip
        have hdrop := rParts_drop F len ps i hip f s
        have hpa := rPart_A F len f s ps[i]
        have hps := rPart_size F len maxLen f s ps[i] (Nat.le_trans hlc HCM.out) HSZ.out
        obtain ⟨p, hp⟩ : ∃ p, ps[i] = p := ⟨_, rfl⟩
        rw [hp] at cp hp10 hnine hdrop hpa hps
        have PT := Lib.hid (part_any HRD.out f hA HROW.out HNE HOF.out p hp10)
        obtain ⟨Q, hQ⟩ : ∃ Q, rPart F len f ⟨s.p, s.e⟩ p = Q := ⟨_, rfl⟩
        rw [show (⟨s.p, s.e⟩ : At) = s from rfl] at hQ PT
        rw [hQ] at hdrop hpa hps PT
        have NEXT := Lib.hid (hdrop.symm.trans HRP.out)
        have HPA := Lib.hid (fun (h : p ≠ 9) => (hpa h).trans hA)
        have HPS := Lib.hid hps
        have HNI := Lib.hid hnine
        clear hp hdrop hpa hps hQ hpb hpc hnil hnine
        go_upto_region 14 with (fail)
        go_wp2_with fail
        with_reducible refine PT.out.mono ?_
        rintro x w1 ⟨rfl, v1, h1, f1, s1, g1, nil1, o1⟩
        have OB1 := Lib.hid (fun (g : Nat) (hg : v1.ownBlock = some g) => (show wC.heap.size < g by have := o1 g hg; have := lt_row HRD.out.row; omega))
        obtain ⟨⟨kd, S, O, N, C, Fi, D, X, A⟩, q1⟩ := Q
        dsimp only [Fr.cells] at f1
        unfold frC at f1
        have FT := Lib.hid (fits_any ⟨kd, S, O, N, C, Fi, D, X, A⟩ v1 p hp10 w1 s1 HPS.out.1 HPS.out.2)
        have H1 := Lib.hid h1
        have F1 := Lib.hid f1
        have S1 := Lib.hid s1
        have G1 := Lib.hid (HCH.out.trans g1)
        have NIL1 := Lib.hid nil1
        obtain ⟨c0, c1, c2', c3, c4, c5, c6, c7, c8⟩ := cells9 f1
        clear h1 f1 s1 g1 nil1 o1 PT cp
        dsimp only [Fr.cells] at FT
        unfold frC at FT
        obtain ⟨ok, hok⟩ : ∃ ok, decide (fitsF ⟨kd, S, O, N, C, Fi, D, X, A⟩ p) = ok := ⟨_, rfl⟩
        rw [hok] at FT
        have HOK := Lib.hid hok
        clear hok
        go_wp2_with fail
        with_reducible refine FT.out.mono ?_
        rintro x w2 ⟨rfl, hb2⟩
        have NE2 := Lib.hid (need_any (H1.out.below hb2) ok)
        have F2 := Lib.hid ((hb2.block _ (lt_row F1.out)).trans F1.out)
        have S2 := Lib.hid (S1.out.later hb2)
        have G2 := Lib.hid (G1.out.trans (Chg2.of_below hb2))
        clear hb2 FT c0 c1 c2' c3 c4 c5 c6 c7 c8
        go_wp2_with fail
        with_reducible refine NE2.out.mono ?_
        rintro x w3 ⟨rfl, h3, g3⟩
        have H3 := Lib.hid h3
        have F3 := Lib.hid (g3.row HNE.symm F2.out)
        have G3 := Lib.hid (G2.out.trans g3.left)
        have S3 := Lib.hid (S2.out.chg g3 (fun e => Nat.lt_irrefl _ (OB1.out _ e)))
        clear h3 g3 NE2
        go_wp2_with fail
        go_roundw
        case rel =>
          exact ⟨i + 1, ⟨kd, S, O, N, C, Fi, D, X, A⟩, v1, rNeed ok q1, by omega, by first | rfl | (congr 1), by rw [← HOK.out]; exact NEXT.out, H3.out, F3.out, S3.out, OB1.out, fun hi2 => (by
            by_cases h9 : p = 9
            · have := HNI.out h9; have := HN.out; omega
            · exact ⟨HPA.out h9, NIL1.out h9⟩), HPS.out, G3.out⟩
        case measure => (simp [intOf] <;> omega)
      · obtain rfl : i = n := by omega
        have hinI : ¬ (i : Int) < (i : Int) := by omega
        have FIN := Lib.hid (show rParts F len ps (fr0 k) ⟨1, 0⟩ = (f, s) by rw [← HRP.out, List.drop_of_length_le (by rw [HN.out]; exact Nat.le_refl _)]; rfl)
        have hR := HR2.out
        rw [FIN.out] at hR
        have EN := Lib.hid (fun (w' : World) => endsInTime_any f v' w' HSZ.out.1)
        obtain ⟨av, cv, rfl, _, _⟩ := HSP.out.at_
        obtain ⟨kd, S, O, N, C, Fi, D, X, A⟩ := f
        dsimp only [Fr.cells] at HROW EN hR
        unfold frC at HROW EN
        obtain ⟨ok, hok⟩ : ∃ ok, decide (endsF ⟨kd, S, O, N, C, Fi, D, X, A⟩) = ok := ⟨_, rfl⟩
        rw [hok] at EN hR
        obtain ⟨s3, hs3⟩ : ∃ s3, rNeed ok s = s3 := ⟨_, rfl⟩
        rw [hs3] at hR
        have HS3 := Lib.hid hs3
        have HRR := Lib.hid hR
        obtain ⟨c0, c1, c2', c3, c4, c5, c6, c7, c8⟩ := cells9 HROW.out
        clear hok hs3 hR hnil
        go_wp2_with fail
        with_reducible refine (EN.out wr).mono ?_
        rintro x w2 ⟨rfl, hb2⟩
        have NE2 := Lib.hid (need_any (HRD.out.below hb2) ok)
        have F2 := Lib.hid ((hb2.block _ (lt_row HROW.out)).trans HROW.out)
        have S2 := Lib.hid (HSP.out.later hb2)
        have G2 := Lib.hid (HCH.out.trans (Chg2.of_below hb2))
        clear hb2 EN c0 c1 c2' c3 c4 c5 c6 c7 c8
        go_wp2_with fail
        with_reducible refine NE2.out.mono ?_
        rintro x w3 ⟨rfl, h3, g3⟩
        rw [show (⟨s.p, s.e⟩ : At) = s from rfl, HS3.out] at h3
        have F3 := Lib.hid (g3.row HNE.symm F2.out)
        have G3 := Lib.hid (G2.out.trans g3.left)
        have S3 := Lib.hid (S2.out.chg g3 (fun e => Nat.lt_irrefl _ (HOB.out _ e)))
        have X3 := Lib.hid ((G3.out.block w.heap.size (lt_row X0E.out) (by omega) (by omega)).trans X0E.out)
        have B3 := Lib.hid (XCE.out.trans (G3.out.below (by omega) (by omega) XCE.out.size))
        obtain ⟨p3, e3⟩ := s3
        dsimp only at h3
        have H3 := Lib.hid h3
        have hRR := HRR.out
        dsimp only at hRR
        obtain ⟨d0, d1, d2⟩ := cells3 h3.row
        obtain ⟨c0, c1, c2', c3, c4, c5, c6, c7, c8⟩ := cells9 F3.out
        clear h3 g3 NE2
        by_cases he : e3 = 0
        · rw [if_pos he] at hRR
          subst he hRR
          go_upto_region 20 with (fail)
          have HS : Hid ((fun w' : World => w'.heap[wB.heap.size]? = some (.cells (frC kd S O N C Fi D X (.slice av A.length cv)) 33 (0, 0)) ∧ w'.cell? ⟨wC.heap.size, 1, none⟩ = some (.int .i64 (p3 : Int))) w3.drew) := Lib.hid ⟨F3.out, d1⟩
          clear c0 c1 c2' c3 c4 c5 c6 c7 c8 d0 d1 d2
          refine wp_region_held_drew (S := fun w' : World => w'.heap[wB.heap.size]? = some (.cells (frC kd S O N C Fi D X (.slice av A.length cv)) 33 (0, 0)) ∧ w'.cell? ⟨wC.heap.size, 1, none⟩ = some (.int .i64 (p3 : Int))) mixedOrders HS.out (fun hHeld => ?_)
          clear hHeld
          refine wpAnyH_take (i := 0) (oi := ⟨some 70, _, _, _, _, _⟩) (v := .agg (frC kd S O N C Fi D X (.slice av A.length cv))) rfl (by kernel_rfl) (by kernel_rfl) (by kernel_rfl) (fun _ _ _ h => h) (Or.inl ⟨by rfl, fun w' hSw => ?_⟩) HS.out ?_
          · obtain ⟨k0, k1, k2, k3, k4, k5, k6, k7, k8⟩ := cells9 (show w'.heap[wB.heap.size]? = some (.cells #[.int .i64 kd, .int .i64 S, .int .i64 O, .int .i64 N, .int .i64 C, .bool Fi, .string D, .string X, .slice av A.length cv] 33 (0, 0)) from hSw.1)
            clear hSw
            unfold frC
            go_simp
          simp only [Act.put, List.setIfInBounds_toArray, List.set_cons_succ, List.set_cons_zero]
          refine wpAnyH_take (i := 1) (oi := ⟨some 71, _, _, _, _, _⟩) (v := .pointer (some ⟨wC.heap.size, 0, none⟩)) rfl (by kernel_rfl) (by kernel_rfl) (by kernel_rfl) (fun _ _ _ h => h) (Or.inl ⟨by rfl, fun w' hSw => ?_⟩) HS.out ?_
          · go_simp
          simp only [Act.put, List.setIfInBounds_toArray, List.set_cons_succ, List.set_cons_zero]
          refine wpAnyH_take (i := 2) (oi := ⟨some 72, _, _, _, _, _⟩) (v := .pointer (some ⟨wC.heap.size, 0, none⟩)) rfl (by kernel_rfl) (by kernel_rfl) (by kernel_rfl) (fun _ _ _ h => h) (Or.inl ⟨by rfl, fun w' hSw => ?_⟩) HS.out ?_
          · go_simp
          simp only [Act.put, List.setIfInBounds_toArray, List.set_cons_succ, List.set_cons_zero]
          refine wpAnyH_take (i := 3) (oi := ⟨some 73, _, _, _, _, _⟩) (v := .pointer (some ⟨wC.heap.size, 1, none⟩)) rfl (by kernel_rfl) (by kernel_rfl) (by kernel_rfl) (fun _ _ _ h => h) (Or.inl ⟨by rfl, fun w' hSw => ?_⟩) HS.out ?_
          · go_simp
          simp only [Act.put, List.setIfInBounds_toArray, List.set_cons_succ, List.set_cons_zero]
          refine wpAnyH_take (i := 4) (oi := ⟨some 74, _, _, _, _, _⟩) (v := .int .i64 (p3 : Int)) rfl (by kernel_rfl) (by kernel_rfl) (by kernel_rfl) (fun _ _ _ h => h) (Or.inl ⟨by rfl, fun w' hSw => ?_⟩) HS.out ?_
          · have c := hSw.2
            clear hSw
            go_simp
          simp only [Act.put, List.setIfInBounds_toArray, List.set_cons_succ, List.set_cons_zero]
          refine wpAnyH_ready (rs := [5]) (by kernel_rfl) (by simp) ?_
          refine AllReadyH.cons (i := 5) rfl (fun K hK => ?_) AllReadyH.nil
          rw [if_pos (by rfl)]
          refine step_store_row 33 _ _ rfl w.heap.size 33 (frC 0 0 0 0 0 false ⟨#[]⟩ ⟨#[]⟩ (.slice none 0 0)) (frC kd S O N C Fi D X (.slice av A.length cv)) rfl rfl X3.out rfl (by kernel_rfl) (frC_one _ _ _ _ _ _ _ _ _ _ _) ?_
          intro w9 rs
          have RS9 := Lib.hid rs
          have HS9 := Lib.hid (show w9.heap[wB.heap.size]? = some (.cells (frC kd S O N C Fi D X (.slice av A.length cv)) 33 (0, 0)) ∧ w9.cell? ⟨wC.heap.size, 1, none⟩ = some (.int .i64 (p3 : Int)) from ⟨(rs.other _ (by omega)).trans HS.out.1, (World.cell?_of_block (w := w3.drew) (h := rs.other wC.heap.size (by omega))).trans HS.out.2⟩)
          clear rs
          refine hK.out _ _ HS9.out (fun _ => ?_)
          clear hK K HS
          have HS := HS9
          try simp only [Act.put, List.setIfInBounds_toArray, List.set_cons_succ, List.set_cons_zero]
          refine wpAnyH_take (i := 6) (oi := ⟨some 3, _, _, _, _, _⟩) (v := .int .i64 (p3 : Int)) rfl (by kernel_rfl) (by kernel_rfl) (by kernel_rfl) (fun _ _ _ h => h) (Or.inl ⟨by rfl, fun w' hSw => ?_⟩) HS.out ?_
          · go_simp
          simp only [Act.put, List.setIfInBounds_toArray, List.set_cons_succ, List.set_cons_zero]
          refine wpAnyH_take (i := 7) (oi := ⟨some 4, _, _, _, _, _⟩) (v := .int .i64 0) rfl (by kernel_rfl) (by kernel_rfl) (by kernel_rfl) (fun _ _ _ h => h) (Or.inl ⟨by rfl, fun w' hSw => ?_⟩) HS.out ?_
          · go_simp
          simp only [Act.put, List.setIfInBounds_toArray, List.set_cons_succ, List.set_cons_zero]
          refine wpAnyH_done (by kernel_rfl) ?_ _
          go_wp2_with fail
          refine bodyPost_ret (results_fr rfl _ _ w.heap.size 33 (frC kd S O N C Fi D X (.slice av A.length cv)) (0, 0) _ rfl RS9.out.row Tryd.underlying33 ⟨_, rfl⟩ (by kernel_rfl)) rfl ?_
          have B4 := Lib.hid (B3.out.trans ((Below.refl _ _).drew.trans (RS9.out.below _ (Nat.le_refl _))))
          exact ⟨_, rfl, (S3.out.later (Below.refl _ _).drew).chg RS9.out.chg (fun e => by have := HOB.out _ e; omega), B4.out, fun g hg => by have h1 := HOB.out g hg; have h2 := XCE.out.size; omega⟩
        · rw [if_neg he] at hRR
          have ene : (e3 != 0) = true := by simp [he]
          subst hRR
          clear he
          go_upto_region 19 with (fail)
          have HS : Hid ((fun w' : World => w'.cell? ⟨wC.heap.size, 2, none⟩ = some (.int .i64 e3)) w3.drew) := Lib.hid d2
          clear c0 c1 c2' c3 c4 c5 c6 c7 c8 d0 d1 d2 ene
          refine wp_region_held_drew (S := fun w' : World => w'.cell? ⟨wC.heap.size, 2, none⟩ = some (.int .i64 e3)) mixedOrders HS.out (fun hHeld => ?_)
          clear hHeld
          refine wpAnyH_take (i := 0) (oi := ⟨some 65, _, _, _, _, _⟩) (v := .agg (frC 0 0 0 0 0 false ⟨#[]⟩ ⟨#[]⟩ (.slice none 0 0))) rfl (by kernel_rfl) (by kernel_rfl) (by kernel_rfl) (fun _ _ _ h => h) (Or.inl ⟨by rfl, fun w' hSw => ?_⟩) HS.out ?_
          · clear hSw
            go_simp
            rfl
          simp only [Act.put, List.setIfInBounds_toArray, List.set_cons_succ, List.set_cons_zero]
          refine wpAnyH_take (i := 1) (oi := ⟨some 66, _, _, _, _, _⟩) (v := .pointer (some ⟨wC.heap.size, 0, none⟩)) rfl (by kernel_rfl) (by kernel_rfl) (by kernel_rfl) (fun _ _ _ h => h) (Or.inl ⟨by rfl, fun w' hSw => ?_⟩) HS.out ?_
          · go_simp
          simp only [Act.put, List.setIfInBounds_toArray, List.set_cons_succ, List.set_cons_zero]
          refine wpAnyH_take (i := 2) (oi := ⟨some 67, _, _, _, _, _⟩) (v := .pointer (some ⟨wC.heap.size, 0, none⟩)) rfl (by kernel_rfl) (by kernel_rfl) (by kernel_rfl) (fun _ _ _ h => h) (Or.inl ⟨by rfl, fun w' hSw => ?_⟩) HS.out ?_
          · go_simp
          simp only [Act.put, List.setIfInBounds_toArray, List.set_cons_succ, List.set_cons_zero]
          refine wpAnyH_take (i := 3) (oi := ⟨some 68, _, _, _, _, _⟩) (v := .pointer (some ⟨wC.heap.size, 2, none⟩)) rfl (by kernel_rfl) (by kernel_rfl) (by kernel_rfl) (fun _ _ _ h => h) (Or.inl ⟨by rfl, fun w' hSw => ?_⟩) HS.out ?_
          · go_simp
          simp only [Act.put, List.setIfInBounds_toArray, List.set_cons_succ, List.set_cons_zero]
          refine wpAnyH_take (i := 4) (oi := ⟨some 69, _, _, _, _, _⟩) (v := .int .i64 e3) rfl (by kernel_rfl) (by kernel_rfl) (by kernel_rfl) (fun _ _ _ h => h) (Or.inl ⟨by rfl, fun w' hSw => ?_⟩) HS.out ?_
          · have c := hSw
            clear hSw
            go_simp
          simp only [Act.put, List.setIfInBounds_toArray, List.set_cons_succ, List.set_cons_zero]
          refine wpAnyH_ready (rs := [5]) (by kernel_rfl) (by simp) ?_
          refine AllReadyH.cons (i := 5) rfl (fun K hK => ?_) AllReadyH.nil
          rw [if_pos (by rfl)]
          refine step_store_row 33 _ _ rfl w.heap.size 33 (frC 0 0 0 0 0 false ⟨#[]⟩ ⟨#[]⟩ (.slice none 0 0)) (frC 0 0 0 0 0 false ⟨#[]⟩ ⟨#[]⟩ (.slice none 0 0)) rfl rfl X3.out rfl (by kernel_rfl) (frC_one _ _ _ _ _ _ _ _ _ _ _) ?_
          intro w9 rs
          have RS9 := Lib.hid rs
          have HS9 := Lib.hid (show w9.cell? ⟨wC.heap.size, 2, none⟩ = some (.int .i64 e3) from (World.cell?_of_block (w := w3.drew) (h := rs.other wC.heap.size (by omega))).trans HS.out)
          clear rs
          refine hK.out _ _ HS9.out (fun _ => ?_)
          clear hK K HS
          have HS := HS9
          try simp only [Act.put, List.setIfInBounds_toArray, List.set_cons_succ, List.set_cons_zero]
          refine wpAnyH_take (i := 6) (oi := ⟨some 3, _, _, _, _, _⟩) (v := .int .i64 0) rfl (by kernel_rfl) (by kernel_rfl) (by kernel_rfl) (fun _ _ _ h => h) (Or.inl ⟨by rfl, fun w' hSw => ?_⟩) HS.out ?_
          · go_simp
          simp only [Act.put, List.setIfInBounds_toArray, List.set_cons_succ, List.set_cons_zero]
          refine wpAnyH_take (i := 7) (oi := ⟨some 4, _, _, _, _, _⟩) (v := .int .i64 e3) rfl (by kernel_rfl) (by kernel_rfl) (by kernel_rfl) (fun _ _ _ h => h) (Or.inl ⟨by rfl, fun w' hSw => ?_⟩) HS.out ?_
          · go_simp
          simp only [Act.put, List.setIfInBounds_toArray, List.set_cons_succ, List.set_cons_zero]
          refine wpAnyH_done (by kernel_rfl) ?_ _
          go_wp2_with fail
          refine bodyPost_ret (results_fr rfl _ _ w.heap.size 33 (frC 0 0 0 0 0 false ⟨#[]⟩ ⟨#[]⟩ (.slice none 0 0)) (0, 0) _ rfl RS9.out.row Tryd.underlying33 ⟨_, rfl⟩ (by kernel_rfl)) rfl ?_
          have B4 := Lib.hid (B3.out.trans ((Below.refl _ _).drew.trans (RS9.out.below _ (Nat.le_refl _))))
          exact ⟨_, rfl, SpansIn.none _, B4.out, fun g hg => by cases hg⟩
theorem get_any' (F : Nat → BitVec 8) (a : Option Addr) (len cap : Nat) (w : World) (hB : BytesIn w a len F) (hlc : len ≤ cap) (hcm : cap ≤ maxLen) :
    Calls Tryd.prog 12 #[.slice a len cap] w (GetPost (getR F len) w) :=
  (get_own F a len cap w hB hlc hcm).mono (fun _ _ h => by
    obtain ⟨v, h1, h2, h3, _⟩ := h
    exact ⟨v, h1, h2, h3⟩)
end Go.Proofs.YtcgbhcmgddgheabDoor
