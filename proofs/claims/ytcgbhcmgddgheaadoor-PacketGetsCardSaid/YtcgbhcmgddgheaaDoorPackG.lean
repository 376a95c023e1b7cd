/-
  THE CALLS OF PACKAGE packet: what an Initial, a ZeroRTT or a Handshake has behind the names.
-/
import Derived.Test.YtcgbhcmgddgheaaDoorPackF
import Derived.Test.YtcgbhcmgddgheaaDoorVlqH
namespace Go.Proofs.YtcgbhcmgddgheaaDoor
open Go Go.RowKit Go.BigFrame
set_option linter.unusedSimpArgs false
set_option linter.unusedVariables false
set_option maxRecDepth 100000
/-- A Length's two bytes. -/
def lenS (l : Int) : ByteArray := strOf (vbyte (BitVec.ofInt 64 l) 1) 2
theorem grown_row {B n k : Nat} {v v' : Value} {f : Nat → BitVec 8} {w w' : World} {o : Option Obj} (hg : GrownV w w' v v') (ho : Own B v n f w) (hk : k < w.heap.size) (hB : ∀ j, v.ownBlock = some j → j ≠ k) (h : w.heap[k]? = o) : w'.heap[k]? = o := by
  rw [hg.block hk (fun e => hB k e rfl)]
  exact h
set_option maxHeartbeats 8000000 in
theorem appendCounted_S {B : Nat} {b : Value} {Q : ByteArray} (k v l N : Int) (z : Nat) (D S T : ByteArray) (ph : Bool) (L : Value) (w : World) (hq : OwnS B b Q w) (hQ : Q.size ≤ 100000) (hk : k ≠ 0) (hl0 : 0 ≤ l) (hl1 : l ≤ 16383) (hz : z ≤ 4) (tab : Tab w) :
    Calls Tryd.prog 63 #[b, .agg (hdC k v D S T l N (z : Int) ph L)] w fun e w' => ∃ b', e = .returned (.tuple #[b', .int .i64 0]) ∧ OwnS B b' (Q ++ lenS l ++ lowS N z) w' ∧ Below B w w' := by
  obtain ⟨n, f, ho, rfl⟩ := hq
  rw [strOf_size] at hQ
  have PC := Lib.hid (fun (w' : World) (t : Tab w') => (show Calls Tryd.prog 46 #[.int .i64 l, .int .i64 2] w' (PutOk (BitVec.ofInt 64 l) 1 w') from by
    have h := putIn_int_ok l (BitVec.ofInt 64 l) (wrap_n64 l) 1 (by omega) (by rw [BitVec.toNat_ofInt]; omega) w' t
    exact h))
  have HO := Lib.hid ho
  have TB := Lib.hid tab
  have J : Hid (strOf f n ++ lenS l = strOf (joinb f n (vbyte (BitVec.ofInt 64 l) 1)) (n + 2)) := Lib.hid (joined f (vbyte (BitVec.ofInt 64 l) 1) n 2)
  have AN := Lib.hid (fun (B' : Nat) (v' : Value) (S' : ByteArray) (w' : World) (h : OwnS B' v' S' w') (hs : S'.size ≤ 100000000000000) => appendNumber_S N z w' h (by omega) hs)
  rw [J.out]
  clear ho tab
  unfold hdC
  have hkb : (k == 0) = false := beq_eq_false_iff_ne.2 hk
  go_enter Tryd.func63, Tryd.ntmps63
  have row := heap_alloc_last w (.cells #[.int .i64 k, .int .i64 v, .string D, .string S, .string T, .int .i64 l, .int .i64 N, .int .i64 (z : Int), .bool ph, L] 66)
  have bel := (Below.refl w.heap.size w).alloc (Nat.le_refl _) (.cells #[.int .i64 k, .int .i64 v, .string D, .string S, .string T, .int .i64 l, .int .i64 N, .int .i64 (z : Int), .bool ph, L] 66)
  go_upto_region 1 with (fail)
  generalize w.alloc _ = wa at *
  obtain ⟨c0, c1, c2, c3, c4, c5, c6, c7, c8, c9⟩ := cells10 row
  have ROW := Lib.hid row
  have BEL := Lib.hid bel
  clear row bel
  go_wp2_with fail
  with_reducible refine (PC.out wa (TB.out.later BEL.out)).mono ?_
  rintro e w1 ⟨r, rfl, my⟩
  have own1 := (HO.out.later BEL.out).later my.below
  have row1 := (my.below.block _ (lt_row ROW.out)).trans ROW.out
  have O1 := Lib.hid own1
  have R1 := Lib.hid row1
  have S1 := Lib.hid (src_bytes (vbyte (BitVec.ofInt 64 l) 1) r 0 2 2 w1 (fun i hi => by rw [Nat.zero_add]; exact my.at i hi))
  have HB1 := Lib.hid (BEL.out.trans (my.below.mono BEL.out.size))
  have NE := Lib.hid (fun (j : Nat) (hj : b.ownBlock = some j) => (show j ≠ w.heap.size by have := (HO.out.lt hj).2; omega))
  clear my own1 row1 PC c0 c1 c2 c3 c4 c5 c6 c7 c8 c9
  go_wp2_with (first
    | (refine wpList_append_bytes (o := ⟨some 36, _, _, _, _, _⟩) rfl _ _ 26 rfl rfl rfl O1.out S1.out (by omega) ?_
       intro v2 w2 ho2 hg2
       have row2 := Lib.hid (grown_row hg2 O1.out (lt_row R1.out) NE.out R1.out)
       have os2 : OwnS B v2 (strOf (joinb f n (vbyte (BitVec.ofInt 64 l) 1)) (n + 2)) w2 := ⟨_, _, ho2, rfl⟩
       have OS2 := Lib.hid os2
       have HB2 := Lib.hid ((show Below B w w1 from Below.mono HB1.out HO.out.base).trans (hg2.below O1.out))
       clear ho2 hg2 os2
       obtain ⟨c0, c1, c2, c3, c4, c5, c6, c7, c8, c9⟩ := cells10 row2.out)
    | fail)
  have zz := strOf_size (joinb f n (vbyte (BitVec.ofInt 64 l) 1)) (n + 2)
  have AA := Lib.hid (AN.out B v2 _ w2 OS2.out (by rw [zz]; omega))
  generalize hQL : strOf (joinb f n (vbyte (BitVec.ofInt 64 l) 1)) (n + 2) = QL at *
  have HQL := Lib.hid hQL
  clear hQL
  refine AA.out.mono ?_
  rintro e w3 ⟨v3, rfl, ho3, hb3⟩
  have OS3 := Lib.hid ho3
  have HB3 := Lib.hid (HB2.out.trans hb3)
  clear ho3 hb3 AA c0 c1 c2 c3 c4 c5 c6 c7 c8 c9
  go_wp2_with fail
  go_ret2
  exact ⟨v3, rfl, by rw [HQL.out]; exact OS3.out, HB3.out⟩
/-- Behind an append the laid tables stand, and what is one's own lies off a block that was there. -/
theorem Tab.below {B : Nat} {w w' : World} (h : Tab w) (hB : 1 < B) (hb : Below B w w') : Tab w' :=
  ⟨by rw [hb.cell (p := ⟨1, 0, none⟩) hB]; exact h.c0, by rw [hb.cell (p := ⟨1, 1, none⟩) hB]; exact h.c1,
   by rw [hb.cell (p := ⟨1, 3, none⟩) hB]; exact h.c3, by rw [hb.cell (p := ⟨1, 7, none⟩) hB]; exact h.c7⟩
theorem grown_ne {B n k : Nat} {v v' : Value} {f : Nat → BitVec 8} {w w' : World} (hg : GrownV w w' v v') (ho : Own B v n f w) (hk : k < w.heap.size) (hB : ∀ j, v.ownBlock = some j → j ≠ k) : ∀ j, v'.ownBlock = some j → j ≠ k := by
  intro j hj
  rcases hg.blk with e | ⟨i, e, hi⟩
  · exact hB j (by rw [← e]; exact hj)
  · rw [e] at hj
    injection hj with hj
    omega
set_option maxHeartbeats 8000000 in
theorem appendCounted_0 {B : Nat} {b : Value} {Q : ByteArray} (v l N : Int) (z : Nat) (D S : ByteArray) (tf : Nat → BitVec 8) (nt : Nat) (ph : Bool) (L : Value) (w : World) (hq : OwnS B b Q w) (hQ : Q.size ≤ 100000) (hnt : nt ≤ 512) (hl0 : 0 ≤ l) (hl1 : l ≤ 16383) (hz : z ≤ 4) (tab : Tab w) (hgB : 1 < B) :
    Calls Tryd.prog 63 #[b, .agg (hdC 0 v D S (strOf tf nt) l N (z : Int) ph L)] w fun e w' => ∃ b', e = .returned (.tuple #[b', .int .i64 0]) ∧ OwnS B b' (Q ++ strOf (textB nt tf) (textK nt + nt) ++ lenS l ++ lowS N z) w' ∧ Below B w w' := by
  obtain ⟨n, f, ho, rfl⟩ := hq
  rw [strOf_size] at hQ
  have PC := Lib.hid (fun (w' : World) (t : Tab w') => (show Calls Tryd.prog 46 #[.int .i64 l, .int .i64 2] w' (PutOk (BitVec.ofInt 64 l) 1 w') from by
    have h := putIn_int_ok l (BitVec.ofInt 64 l) (wrap_n64 l) 1 (by omega) (by rw [BitVec.toNat_ofInt]; omega) w' t
    exact h))
  have HO := Lib.hid ho
  have TB := Lib.hid tab
  have TX := Lib.hid (fun (w' : World) (t : Tab w') => text_ok tf nt w' (by omega) t)
  have TK := textK_pos nt
  obtain ⟨m, hm⟩ : ∃ m, n + (textK nt + nt) = m := ⟨_, rfl⟩
  obtain ⟨g, hg⟩ : ∃ g, joinb f n (textB nt tf) = g := ⟨_, rfl⟩
  have J0 : Hid (strOf f n ++ strOf (textB nt tf) (textK nt + nt) = strOf g m) := Lib.hid (by rw [joined, hm, hg])
  have J : Hid (strOf g m ++ lenS l = strOf (joinb g m (vbyte (BitVec.ofInt 64 l) 1)) (m + 2)) := Lib.hid (joined g (vbyte (BitVec.ofInt 64 l) 1) m 2)
  have HM := Lib.hid hm
  have HG := Lib.hid hg
  have hm2 : m ≤ 200000 := by omega
  rw [J0.out]
  have AN := Lib.hid (fun (B' : Nat) (v' : Value) (S' : ByteArray) (w' : World) (h : OwnS B' v' S' w') (hs : S'.size ≤ 100000000000000) => appendNumber_S N z w' h (by omega) hs)
  rw [J.out]
  generalize strOf tf nt = T at *
  clear ho tab hm hg
  unfold hdC
  go_enter Tryd.func63, Tryd.ntmps63
  have row := heap_alloc_last w (.cells #[.int .i64 0, .int .i64 v, .string D, .string S, .string T, .int .i64 l, .int .i64 N, .int .i64 (z : Int), .bool ph, L] 66)
  have bel := (Below.refl w.heap.size w).alloc (Nat.le_refl _) (.cells #[.int .i64 0, .int .i64 v, .string D, .string S, .string T, .int .i64 l, .int .i64 N, .int .i64 (z : Int), .bool ph, L] 66)
  go_upto_region 1 with (fail)
  generalize w.alloc _ = wa at *
  obtain ⟨c0, c1, c2, c3, c4, c5, c6, c7, c8, c9⟩ := cells10 row
  have ROW := Lib.hid row
  have BEL := Lib.hid bel
  clear row bel
  go_wp2_with fail
  with_reducible refine (TX.out wa (TB.out.later BEL.out)).mono ?_
  rintro e w4 ⟨v4, rfl, own4, hb4⟩
  have O4 := Lib.hid ((HO.out.later BEL.out).later hb4)
  have R4 := Lib.hid ((hb4.block _ (lt_row ROW.out)).trans ROW.out)
  obtain ⟨g4, q4, rfl, _, _, hin4⟩ := own4.bytesIn (by omega)
  have S4 := Lib.hid (src_in hin4 q4)
  have HB4 := Lib.hid (BEL.out.trans (hb4.mono BEL.out.size))
  have NE4 := Lib.hid (fun (j : Nat) (hj : b.ownBlock = some j) => (show j ≠ w.heap.size by have := (HO.out.lt hj).2; omega))
  clear own4 hin4 hb4 TX c0 c1 c2 c3 c4 c5 c6 c7 c8 c9
  go_wp2_with (first
    | (refine wpList_append_bytes (o := ⟨some 24, _, _, _, _, _⟩) rfl _ _ 26 rfl rfl rfl O4.out S4.out (by have := HM.out; omega) ?_
       intro v5 w5 ho5 hg5
       have row5 := Lib.hid (grown_row hg5 O4.out (lt_row R4.out) NE4.out R4.out)
       rw [HM.out, HG.out] at ho5
       have HB5 := Lib.hid ((show Below B w w4 from Below.mono HB4.out HO.out.base).trans (hg5.below O4.out))
       have O5 := Lib.hid ho5
       have T5 := Lib.hid ((TB.out.later HB4.out).below hgB (hg5.below O4.out))
       have NE := Lib.hid (grown_ne hg5 O4.out (lt_row R4.out) NE4.out)
       clear ho5 hg5
       obtain ⟨c0, c1, c2, c3, c4, c5, c6, c7, c8, c9⟩ := cells10 row5.out)
    | fail)
  with_reducible refine (PC.out w5 T5.out).mono ?_
  rintro e w1 ⟨r, rfl, my⟩
  have own1 := O5.out.later my.below
  have row1 := (my.below.block _ (lt_row row5.out)).trans row5.out
  have O1 := Lib.hid own1
  have R1 := Lib.hid row1
  have S1 := Lib.hid (src_bytes (vbyte (BitVec.ofInt 64 l) 1) r 0 2 2 w1 (fun i hi => by rw [Nat.zero_add]; exact my.at i hi))
  have HB1 := Lib.hid (HB5.out.trans (my.below.mono O5.out.base))
  clear my own1 row1 PC c0 c1 c2 c3 c4 c5 c6 c7 c8 c9
  go_wp2_with (first
    | (refine wpList_append_bytes (o := ⟨some 36, _, _, _, _, _⟩) rfl _ _ 26 rfl rfl rfl O1.out S1.out (by omega) ?_
       intro v2 w2 ho2 hg2
       have row2 := Lib.hid (grown_row hg2 O1.out (lt_row R1.out) NE.out R1.out)
       have os2 : OwnS B v2 (strOf (joinb g m (vbyte (BitVec.ofInt 64 l) 1)) (m + 2)) w2 := ⟨_, _, ho2, rfl⟩
       have OS2 := Lib.hid os2
       have HB2 := Lib.hid (HB1.out.trans (hg2.below O1.out))
       clear ho2 hg2 os2
       obtain ⟨c0, c1, c2, c3, c4, c5, c6, c7, c8, c9⟩ := cells10 row2.out)
    | fail)
  have zz := strOf_size (joinb g m (vbyte (BitVec.ofInt 64 l) 1)) (m + 2)
  have AA := Lib.hid (AN.out B v2 _ w2 OS2.out (by rw [zz]; omega))
  generalize hQL : strOf (joinb g m (vbyte (BitVec.ofInt 64 l) 1)) (m + 2) = QL at *
  have HQL := Lib.hid hQL
  clear hQL
  refine AA.out.mono ?_
  rintro e w3 ⟨v3, rfl, ho3, hb3⟩
  have OS3 := Lib.hid ho3
  have HB3 := Lib.hid (HB2.out.trans hb3)
  clear ho3 hb3 AA c0 c1 c2 c3 c4 c5 c6 c7 c8 c9
  go_wp2_with fail
  go_ret2
  exact ⟨v3, rfl, by rw [HQL.out]; exact OS3.out, HB3.out⟩
end Go.Proofs.YtcgbhcmgddgheaaDoor
