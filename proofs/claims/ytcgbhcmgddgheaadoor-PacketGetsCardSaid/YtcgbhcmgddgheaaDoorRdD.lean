/-
  PACKET's READER: versions.
-/
import Derived.Test.YtcgbhcmgddgheaaDoorRdC
import Derived.Test.YtcgbhcmgddgheaaDoorPackD
namespace Go.Proofs.YtcgbhcmgddgheaaDoor
open Go Go.RowKit Go.BigFrame
set_option linter.unusedSimpArgs false
set_option linter.unusedVariables false
set_option maxRecDepth 100000
theorem Chg.other {b q : Nat} {w w1 w2 : World} (h : Chg b w w1) (k : Chg q w1 w2) (hq : w.heap.size ≤ q) : Chg b w w2 :=
  ⟨k.os.trans h.os, k.tape.trans h.tape, k.output.trans h.output, Nat.le_trans h.size k.size, fun i hi hb => (k.block i (Nat.lt_of_lt_of_le hi h.size) (by omega)).trans (h.block i hi hb)⟩
theorem Rd.chg {w w' : World} {b q : Nat} {a : Option Addr} {len cap : Nat} {f : Nat → BitVec 8} {p : Nat} {e : Int} (h : Rd w b a len cap f p e) (hc : Chg q w w') (hb : b ≠ q) (ha : ∀ x, a = some x → x.block ≠ q) : Rd w' b a len cap f p e :=
  ⟨hc.row hb h.row, h.inB.chg hc ha, h.lc, h.cm, h.pl, h.off⟩
/-- A row of ints. -/
def intsA (g : Nat → Int) (n : Nat) : Array Value := ((List.range n).map fun i => .int .i64 (g i)).toArray
theorem intsA_size (g : Nat → Int) (n : Nat) : (intsA g n).size = n := by simp [intsA]
theorem intsA_get (g : Nat → Int) (n i : Nat) (h : i < n) : (intsA g n)[i]? = some (.int .i64 (g i)) := by simp [intsA, h]
theorem intsA_set (g : Nat → Int) (n j : Nat) (x : Int) : (intsA g n).setIfInBounds j (.int .i64 x) = intsA (fun i => if i = j then x else g i) n := by
  apply Array.ext_getElem?
  intro i
  rw [Array.getElem?_setIfInBounds, intsA_size]
  by_cases hi : i < n
  · rw [intsA_get _ _ _ hi, intsA_get _ _ _ hi]
    by_cases hj : j = i
    · subst hj; rw [if_pos rfl, if_pos hi, if_pos rfl]
    · rw [if_neg hj, if_neg (fun e => hj e.symm)]
  · rw [Array.getElem?_eq_none (by rw [intsA_size]; omega), Array.getElem?_eq_none (by rw [intsA_size]; omega)]
    split
    · rw [if_neg (by omega)]
    · rfl
theorem zeros_ints (n : Nat) : Array.replicate n (Value.int .i64 0) = intsA (fun _ => 0) n := by
  apply Array.ext_getElem?
  intro i
  by_cases hi : i < n
  · rw [intsA_get _ _ _ hi]; simp [hi]
  · rw [Array.getElem?_eq_none (xs := intsA (fun _ => 0) n) (by rw [intsA_size]; omega)]; simp [hi]
theorem info_int' : ∃ i0, Tryd.prog.info? 3 = some i0 ∧ i0.zero = some (.int .i64 0) ∧ i0.size = 1 ∧ i0.bytes = 8 := by
  have h : (Tryd.prog.info? 3).map (fun i => (i.zero, i.size, i.bytes)) = some (some (.int .i64 0), 1, 8) := by kernel_rfl
  cases hq : Tryd.prog.info? 3 with
  | none => simp [hq] at h
  | some i =>
    simp [hq] at h
    exact ⟨i, rfl, h.1, h.2.1, h.2.2⟩
theorem run_make_ints (n : Nat) (hn : n ≤ 1000000) (w : World) :
    (Instr.makeSlice 56 (.int .i64 (n : Int)) (.int .i64 (n : Int))).run Tryd.prog w = .ok (.slice (some ⟨w.heap.size, 0, none⟩) n n) (w.alloc (.cells (intsA (fun _ => 0) n) 3)) := by
  obtain ⟨i, hq, hz, hs, hb⟩ := info_int'
  have h := run_make (P := Tryd.prog) w 56 3 i _ (by kernel_rfl) hq hz .i64 .i64 (n : Int) (n : Int) (by omega) (by omega) (by rw [hb]; omega) (by omega)
  rw [h, hs]
  have e : madeCells (Value.int .i64 0).cells (((n : Nat) : Int).toNat * 1) = intsA (fun _ => 0) n := by
    unfold madeCells intsA
    apply Array.ext_getElem?
    intro j
    by_cases hj : j < n
    · simp [hj, Value.cells, Nat.mod_one]
    · simp [hj]
  rw [e]
  simp
/-- The numbers of n bytes each, from the p-th byte on. -/
def vsG (f : Nat → BitVec 8) (p n : Nat) : List Int := (List.range n).map fun j => (numG (fun i => f (p + 4 * j + i)) 4 : Int)
theorem vsG_len (f : Nat → BitVec 8) (p n : Nat) : (vsG f p n).length = n := by simp [vsG]
def vsE (len p : Nat) (e : Int) : Int := if amE ((len - p) / 4 : Nat) 16 e = 0 ∧ ((len - p) / 4 = 0 ∨ (len - p) % 4 ≠ 0) then 2 else amE ((len - p) / 4 : Nat) 16 e
def VsPost (b : Nat) (a : Option Addr) (len cap : Nat) (f : Nat → BitVec 8) (w : World) (G : List Int) (p : Nat) (e : Int) (x : Ending) (w' : World) : Prop :=
  ∃ aL cL, x = .returned (.slice aL G.length cL) ∧ (∀ y, aL = some y → w.heap.size ≤ y.block) ∧ IntsIn w' (.slice aL G.length cL) G ∧ Rd w' b a len cap f p e ∧ Chg b w w'
/-- Numbers that lie elsewhere stay. -/
theorem IntsIn.chg {w w' : World} {q : Nat} {aL : Option Addr} {cL : Nat} {G : List Int} (hi : IntsIn w (.slice aL G.length cL) G) (hc : Chg q w w') (hq : ∀ y, aL = some y → y.block ≠ q) : IntsIn w' (.slice aL G.length cL) G := by
  obtain ⟨a', c', e1, h1, hat⟩ := hi.at_
  injection e1 with e1 _ e3
  subst e1 e3
  refine ⟨aL, cL, rfl, h1, fun i hi' => ?_⟩
  obtain ⟨bb, o, e2, hl, hcell⟩ := hat i hi'
  exact ⟨bb, o, e2, Nat.lt_of_lt_of_le hl hc.size, by rw [hc.cell (p := ⟨bb, o + i, none⟩) hl (show bb ≠ q from hq _ e2)]; exact hcell⟩
theorem ints_none (w : World) : IntsIn w (.slice none 0 0) [] := ⟨none, 0, rfl, ⟨Nat.le_refl _, Nat.zero_le _⟩, fun i hi => by simp at hi⟩
set_option maxHeartbeats 8000000 in
theorem versions_any {w : World} {b : Nat} {a : Option Addr} {len cap : Nat} {f : Nat → BitVec 8} {p : Nat} {e : Int} (h : Rd w b a len cap f p e) :
    Calls Tryd.prog 78 #[.pointer (some ⟨b, 0, none⟩)] w
      (VsPost b a len cap f w (if vsE len p e = 0 then vsG f p ((len - p) / 4) else []) (if vsE len p e = 0 then len else p) (vsE len p e)) := by
  have L1 := Lib.hid (left_any h)
  have L2 := Lib.hid (fun (w' : World) (e' : Int) (h' : Rd w' b a len cap f p e') => left_any h')
  have A := Lib.hid (fun (w' : World) (h' : Rd w' b a len cap f p e) => (show Calls Tryd.prog 83 #[.pointer (some ⟨b, 0, none⟩), .int .i64 ((len - p) / 4 : Nat), .int .i64 16] w' (RdPost b a len cap f w' (.int .i64 (nmK ((len - p) / 4) 16 e : Nat)) p (amE ((len - p) / 4 : Nat) ((16 : Nat) : Int) e)) from by
    have h1 := atMost_any h' ((len - p) / 4 : Nat) ((16 : Nat) : Int)
    rw [nmK_eq] at h1
    exact h1))
  have hpl := h.pl
  have hm : len ≤ 9223372036854775807 := by have := h.lc; have := h.cm; unfold maxLen at *; omega
  have hoff := h.off
  clear h
  have ht4 : ((len - p : Nat) : Int).tdiv 4 = (((len - p) / 4 : Nat) : Int) := by rw [Int.tdiv_eq_ediv_of_nonneg (by omega)]; omega
  have hr4 : ((len - p : Nat) : Int).tmod 4 = (((len - p) % 4 : Nat) : Int) := by rw [Int.tmod_eq_emod_of_nonneg (by omega)]; omega
  have DEF := Lib.hid (show vsE len p e = if amE ((len - p) / 4 : Nat) 16 e = 0 ∧ ((len - p) / 4 = 0 ∨ (len - p) % 4 ≠ 0) then 2 else amE ((len - p) / 4 : Nat) 16 e from rfl)
  have LEN := Lib.hid (show (len - p) % 4 = 0 → p + 4 * ((len - p) / 4) = len from by omega)
  have lm : len - p ≤ 9223372036854775807 := by omega
  have hq9 : (len - p) / 4 ≤ 2305843009213693951 := by omega
  have hr9 : (len - p) % 4 < 4 := by omega
  generalize len - p = lf at L1 L2 A ht4 hr4 DEF LEN lm hq9 hr9 ⊢
  generalize lf / 4 = q at L1 L2 A ht4 hr4 DEF LEN hq9 ⊢
  generalize lf % 4 = r at L1 L2 A ht4 hr4 DEF LEN hr9 ⊢
  obtain ⟨am, ham⟩ : ∃ am, amE (q : Int) 16 e = am := ⟨_, rfl⟩
  have AM := Lib.hid ham
  rw [show ((16 : Nat) : Int) = 16 from rfl] at A
  rw [ham] at A DEF
  generalize hK : nmK q 16 e = kk at A
  have HK := Lib.hid hK
  clear ham hK
  obtain ⟨ve, hve⟩ : ∃ ve, vsE len p e = ve := ⟨_, rfl⟩
  rw [hve] at DEF ⊢
  clear hve
  by_cases h1 : am = 0
  rotate_left
  · obtain rfl : ve = am := by have h := DEF.out; rw [if_neg (by omega)] at h; exact h
    rw [if_neg h1, if_neg h1]
    go_enter Tryd.func78, Tryd.ntmps78
    go_wp2_with fail
    with_reducible refine L1.out.mono ?_
    rintro x w1 ⟨rfl, h1, g1⟩
    have A1 := Lib.hid (A.out w1 h1)
    have G1 := Lib.hid g1
    clear h1 g1 L1 A
    go_wp2_with fail
    with_reducible refine A1.out.mono ?_
    rintro x w2 ⟨rfl, h2, g2⟩
    have H2 := Lib.hid h2
    have G2 := Lib.hid (G1.out.trans g2)
    obtain ⟨c0, c1, c2⟩ := cells3 h2.row
    clear h2 g2 A1 G1
    go_wp2_with fail
    go_ret
    exact ⟨none, 0, rfl, (fun y hy => by cases hy), ints_none _, H2.out, G2.out⟩
  subst h1
  by_cases hor : q = 0 ∨ r ≠ 0
  · obtain rfl : ve = 2 := by have h := DEF.out; rw [if_pos ⟨rfl, hor⟩] at h; exact h
    rw [if_neg (by omega), if_neg (by omega)]
    go_enter Tryd.func78, Tryd.ntmps78
    go_wp2_with fail
    with_reducible refine L1.out.mono ?_
    rintro x w1 ⟨rfl, h1, g1⟩
    have A1 := Lib.hid (A.out w1 h1)
    have G1 := Lib.hid g1
    clear h1 g1 L1 A
    go_wp2_with fail
    with_reducible refine A1.out.mono ?_
    rintro x w2 ⟨rfl, h2, g2⟩
    have H2 := Lib.hid h2
    have G2 := Lib.hid (G1.out.trans g2)
    obtain ⟨c0, c1, c2⟩ := cells3 h2.row
    have fr : w2.frozen? ⟨b, 2, none⟩ = false := frozen_of_row _ _ _ _ _ h2.row
    have S2 := Lib.hid (h2.setE 2)
    clear g2 A1 G1
    by_cases hq0 : q = 0
    · obtain rfl : kk = 0 := by have h := HK.out; unfold nmK at h; split at h <;> omega
      clear h2
      go_wp2_with fail
      go_ret
      exact ⟨none, 0, rfl, (fun y hy => by cases hy), ints_none _, S2.out.1, G2.out.trans S2.out.2⟩
    · obtain rfl : kk = q := by
        have h := AM.out
        have h' := HK.out
        unfold amE at h
        unfold nmK at h'
        split at h
        · omega
        · rw [if_pos (by omega)] at h'; exact h'.symm
      have L3 := Lib.hid (L2.out w2 0 h2)
      clear h2
      go_wp2_with fail
      with_reducible refine L3.out.mono ?_
      rintro x w3 ⟨rfl, h3, g3⟩
      have fr3 : w3.frozen? ⟨b, 2, none⟩ = false := frozen_of_row _ _ _ _ _ h3.row
      have S3 := Lib.hid (h3.setE 2)
      have G3 := Lib.hid (G2.out.trans g3)
      obtain ⟨d0, d1, d2⟩ := cells3 h3.row
      have hr0 : ((r : Int) != 0) = true := by simp; omega
      clear h3 g3 c0 c1 c2
      go_wp2_with fail
      go_ret
      exact ⟨none, 0, rfl, (fun y hy => by cases hy), ints_none _, S3.out.1, G3.out.trans S3.out.2⟩
  have h3 : ¬ q = 0 := fun hc => hor (.inl hc)
  obtain rfl : r = 0 := by omega
  obtain rfl : ve = 0 := by have h := DEF.out; rw [if_neg (by omega)] at h; exact h
  obtain ⟨he, h16⟩ : e = 0 ∧ q ≤ 16 := by
    have h := AM.out
    unfold amE at h
    split at h <;> omega
  subst he
  obtain rfl : kk = q := by have h := HK.out; unfold nmK at h; rw [if_pos (by omega)] at h; exact h.symm
  have hlen := LEN.out rfl
  have HL := Lib.hid hlen
  rw [if_pos rfl, if_pos rfl]
  clear hor DEF LEN AM HK hlen
  go_enter Tryd.func78, Tryd.ntmps78
  go_wp2_with fail
  with_reducible refine L1.out.mono ?_
  rintro x w1 ⟨rfl, h1, g1⟩
  have A1 := Lib.hid (A.out w1 h1)
  have G1 := Lib.hid g1
  clear h1 g1 L1 A
  go_wp2_with fail
  with_reducible refine A1.out.mono ?_
  rintro x w2 ⟨rfl, h2, g2⟩
  have G2 := Lib.hid (G1.out.trans g2)
  obtain ⟨c0, c1, c2⟩ := cells3 h2.row
  have L3 := Lib.hid (L2.out w2 0 h2)
  clear h2 g2 A1 G1
  go_wp2_with fail
  with_reducible refine L3.out.mono ?_
  rintro x w3 ⟨rfl, h3, g3⟩
  have H3 := Lib.hid h3
  have G3 := Lib.hid (G2.out.trans g3)
  obtain ⟨d0, d1, d2⟩ := cells3 h3.row
  have mk := run_make_ints kk (by omega) w3
  have hkb : ((kk : Int) == 0) = false := beq_eq_false_iff_ne.2 (by omega)
  rw [show ((0 : Nat) : Int) = 0 from rfl] at hr4
  clear h3 g3 c0 c1 c2 L2 L3
  go_wp2_with fail
  have hqs : w.heap.size ≤ w3.heap.size := G3.out.size
  have bel := (Below.refl w3.heap.size w3).alloc (Nat.le_refl _) (.cells (intsA (fun _ => 0) kk) 3)
  have row := heap_alloc_last w3 (.cells (intsA (fun _ => 0) kk) 3)
  generalize World.alloc _ _ = w4 at *
  have ROW := Lib.hid row
  have R4 := Lib.hid (H3.out.below bel)
  have G4 := Lib.hid (G3.out.trans (Chg.of_below bel))
  have hbq : b ≠ w3.heap.size := by have := lt_row H3.out.row; omega
  have HA := Lib.hid (fun (x : Addr) (hx : a = some x) (hk : 0 < len) => (show x.block ≠ w3.heap.size from by
    rcases H3.out.inB.2 with h0 | ⟨k, o, e1, hk, _⟩
    · omega
    · rw [hx] at e1; injection e1 with e1; subst e1; show k ≠ _; omega))
  generalize w3.heap.size = Q at *
  have haq : ∀ x, a = some x → x.block ≠ Q := fun x hx => HA.out x hx (by have := HL.out; omega)
  have HAQ := Lib.hid haq
  clear row bel d0 d1 d2 G3 H3 mk HA haq
  go_loopw [38] (fun s38 wr => ∃ j : Nat, j ≤ kk ∧ s38 = .int .i64 (j : Int) ∧ Rd wr b a len cap f (p + 4 * j) 0 ∧ wr.heap[Q]? = some (.cells (intsA (fun i => if i < j then (numG (fun t => f (p + 4 * i + t)) 4 : Int) else 0) kk) 3 (0, 0)) ∧ Chg b w wr) (fun s38 _ => ((kk : Int) - intOf s38).toNat)
  case atStart => exact ⟨0, by omega, rfl, R4.out, by rw [ROW.out]; congr 2, G4.out⟩
  case round =>
    obtain ⟨j, hj, rfl, hr, hrow, hg⟩ := hrel
    by_cases hlt : j < kk
    · have N := Lib.hid (number_any hr 4 (by omega))
      have tk : tkN len (p + 4 * j) 0 4 = 4 := by unfold tkN; rw [if_pos ⟨rfl, by have := HL.out; omega⟩]
      have te : tkE len (p + 4 * j) 0 4 = 0 := by unfold tkE; rw [if_neg (by have := HL.out; omega)]
      rw [tk, te] at N
      rw [show ((4 : Nat) : Int) = 4 from rfl] at N
      have HR := Lib.hid hrow
      have G := Lib.hid hg
      clear hr hrow hg tk te
      generalize hX : numG (fun t => f (p + 4 * j + t)) 4 = X at N
      have HX := Lib.hid hX
      clear hX
      go_wp2_with fail
      with_reducible refine N.out.mono ?_
      rintro x w5 ⟨rfl, h5, g5⟩
      have row5 := g5.row hbq.symm HR.out
      have fr5 : w5.frozen? ⟨Q, j, none⟩ = false := frozen_of_row _ _ _ _ _ row5
      have c5 : w5.cell? ⟨Q, j, none⟩ = some (.int .i64 0) := by
        rw [cell_of_row _ _ _ _ _ _ row5, intsA_get _ _ _ hlt, if_neg (by omega)]
      have st := rowSet_cell w5 Q j _ _ (.int .i64 (X : Int)) row5
      rw [intsA_set] at st
      have ST := Lib.hid st
      have H6 := Lib.hid (h5.chg st.chg hbq HAQ.out)
      have G6 := Lib.hid ((G.out.trans g5).other st.chg hqs)
      clear h5 g5 row5 st N
      go_wp2_with fail
      go_roundw
      case rel =>
        refine ⟨j + 1, by omega, by congr 1, by rw [show p + 4 * (j + 1) = p + 4 * j + 4 by omega]; exact H6.out, ?_, G6.out⟩
        rw [ST.out.row]
        congr 2
        unfold intsA
        congr 1
        apply List.map_congr_left
        intro i hi
        congr 1
        dsimp only
        by_cases e1 : i = j
        · subst e1; rw [if_pos rfl, if_pos (by omega), HX.out]
        · rw [if_neg e1]
          by_cases e2 : i < j
          · rw [if_pos e2, if_pos (by omega)]
          · rw [if_neg e2, if_neg (by omega)]
      case measure => simp [intOf]; omega
    · obtain rfl : j = kk := by omega
      have HR := Lib.hid hr
      have ROWR := Lib.hid hrow
      have G := Lib.hid hg
      clear hr hrow hg
      go_wp2_with fail
      go_ret
      refine ⟨some ⟨Q, 0, none⟩, j, by rw [vsG_len]; rfl, fun y hy => (by injection hy with hy; subst hy; exact hqs), ⟨some ⟨Q, 0, none⟩, j, rfl, ⟨by rw [vsG_len]; exact Nat.le_refl _, by have : 16 ≤ maxLen := (by decide); omega⟩, fun i hi => ?_⟩, ?_, G.out⟩
      · rw [vsG_len] at hi
        refine ⟨Q, 0, rfl, lt_row ROWR.out, ?_⟩
        rw [Nat.zero_add, cell_of_row _ _ _ _ _ _ ROWR.out, intsA_get _ _ _ hi, if_pos hi]
        simp [vsG]
      · have := HR.out
        rw [HL.out] at this
        exact this
end Go.Proofs.YtcgbhcmgddgheaaDoor
