/-
  THE CALLS OF PACKAGE packet: Put of any header.
-/
import Derived.Test.YtcgbhcmgddgheaaDoorPackG
namespace Go.Proofs.YtcgbhcmgddgheaaDoor
open Go Go.RowKit Go.BigFrame
set_option linter.unusedSimpArgs false
set_option linter.unusedVariables false
set_option maxRecDepth 100000
def preS (k v : Int) (z : Nat) (ph : Bool) (D S : ByteArray) : ByteArray := lowS (firstN k z ph) 1 ++ lowS v 4 ++ (lowS (D.size : Int) 1 ++ D) ++ (lowS (S.size : Int) 1 ++ S)
/-- What a header's bytes are. -/
def hputS (k v : Int) (D S : ByteArray) (tf : Nat → BitVec 8) (nt : Nat) (l N : Int) (z : Nat) (ph : Bool) (G : List Int) : ByteArray :=
  if k = 4 then lowS (firstN k z ph) 1 ++ D ++ lowS N z
  else if k = 3 then preS k v z ph D S ++ strOf tf nt
  else if k = 5 then G.foldl (fun s x => s ++ lowS x 4) (preS k v z ph D S)
  else if k = 0 then preS k v z ph D S ++ strOf (textB nt tf) (textK nt + nt) ++ lenS l ++ lowS N z
  else preS k v z ph D S ++ lenS l ++ lowS N z
theorem src_text (T : ByteArray) (w : World) : ∃ f, T = strOf f T.size ∧ Src Tryd.prog 1 9 (.string T) T.size (firsts f T.size) w := by
  obtain ⟨f, hf⟩ := str_as T
  exact ⟨f, hf, by
    have h := src_str f T.size w
    rw [← hf] at h
    exact h⟩
theorem wpList_append_S {ops : Array Oper} {rest : List Oper} {o : Oper} {a : Act} {w : World} {Q : Exit → Act → World → Prop} (hgd : o.guard = none) (s x : Operand)
    (ho : o.op = .call { callee := .builtin .append, args := #[s, x], argTypes := #[26, 9] })
    {B : Nat} {v : Value} {S T : ByteArray} (hs : a.eval s = v) (hx : a.eval x = .string T) (h : OwnS B v S w) (hnm : S.size + T.size ≤ 200000000000000)
    (hk : ∀ v' w', OwnS B v' (S ++ T) w' → Below B w w' → wpList Tryd.prog ops Q rest (a.put o.dst v') w') : wpList Tryd.prog ops Q (o :: rest) a w := by
  obtain ⟨n, f, hown, rfl⟩ := h
  obtain ⟨g, hg, hsrc⟩ := src_text T w
  rw [strOf_size] at hnm
  refine wpList_append_bytes hgd s x 9 ho hs hx hown hsrc hnm ?_
  intro v' w' ho' hg'
  refine hk v' w' ⟨_, _, ho', ?_⟩ (hg'.below hown)
  rw [← joined, ← hg]
set_option maxHeartbeats 16000000 in
theorem put_4 (v l N : Int) (z : Nat) (D S : ByteArray) (tf : Nat → BitVec 8) (nt : Nat) (ph : Bool) (a : Option Addr) (c : Nat) (G : List Int) (w : World) (hL : IntsIn w (.slice a G.length c) G) (hin : inB G D.size S.size nt v l N (z : Int)) (hf : inF 4 v l N (z : Int) S.size nt G.length ph) (tab : Tab w) :
    Calls Tryd.prog 33 #[.agg (hdC 4 v D S (strOf tf nt) l N (z : Int) ph (.slice a G.length c))] w fun e w' => ∃ b, e = .returned (.tuple #[b, .int .i64 0]) ∧ OwnS (w.heap.size + 1) b (hputS 4 v D S tf nt l N z ph G) w' ∧ Below w.heap.size w w' := by
  obtain ⟨_, hG16, hd, hs, hnt, hv, hl, hN, hz⟩ := hin
  have hin' : inB G D.size S.size nt v l N (z : Int) := ⟨by assumption, hG16, hd, hs, hnt, hv, hl, hN, hz⟩
  have IB := Lib.hid (fun (w' : World) (h : IntsIn w' (.slice a G.length c) G) => inBounds_any 4 v l N (z : Int) D S (strOf tf nt) D.size S.size nt rfl rfl (strOf_size _ _) ph (.slice a G.length c) G w' h)
  have IF := Lib.hid (fun (w' : World) => inForm_any 4 v l N (z : Int) D S (strOf tf nt) S.size nt G.length rfl (strOf_size _ _) ph a c w')
  rw [decide_eq_true hin'] at IB
  rw [decide_eq_true hf] at IF
  have hz' : (4 : Int) = 3 ∨ (4 : Int) = 5 ∨ (z : Int) = 1 ∨ (z : Int) = 2 ∨ (z : Int) = 3 ∨ (z : Int) = 4 := by
    unfold inF at hf
    omega
  have FB := Lib.hid (fun (w' : World) => firstByte_any 4 v l N (z : Int) D S (strOf tf nt) ph (.slice a G.length c) w' (by omega) hz')
  have HL := Lib.hid hL
  have TB := Lib.hid tab
  have hz4 : z ≤ 4 := by omega
  have hgB : 1 < w.heap.size + 1 := Nat.lt_succ_of_lt tab.lt
  have L1 := Lib.hid (lowS_one (BitVec.ofInt 8 (firstN 4 z ph)) (firstN 4 z ph) rfl)
  have PE : Hid (hputS 4 v D S tf nt l N z ph G = lowS (firstN 4 z ph) 1 ++ D ++ lowS N z) := Lib.hid (by unfold hputS; rw [if_pos rfl])
  obtain ⟨x, hx⟩ : ∃ x, BitVec.ofInt 8 (firstN 4 z ph) = x := ⟨_, rfl⟩
  rw [hx] at FB L1
  obtain ⟨n, hn⟩ : ∃ n, G.length = n := ⟨_, rfl⟩
  have HN := Lib.hid hn
  rw [hn] at IB IF FB HL ⊢
  obtain ⟨T, hT⟩ : ∃ T, strOf tf nt = T := ⟨_, rfl⟩
  have HT := Lib.hid hT
  have hTs : T.size = nt := by rw [← hT]; exact strOf_size _ _
  rw [hT] at IB IF FB ⊢
  clear hin' hf hL hz' tab hx hn hT hv hl hN
  unfold hdC at IB IF FB ⊢
  go_enter Tryd.func33, Tryd.ntmps33
  have row := heap_alloc_last w (.cells #[.int .i64 4, .int .i64 v, .string D, .string S, .string T, .int .i64 l, .int .i64 N, .int .i64 (z : Int), .bool ph, .slice a n c] 66)
  have bel := (Below.refl w.heap.size w).alloc (Nat.le_refl _) (.cells #[.int .i64 4, .int .i64 v, .string D, .string S, .string T, .int .i64 l, .int .i64 N, .int .i64 (z : Int), .bool ph, .slice a n c] 66)
  go_upto_region 1 with (fail)
  generalize w.alloc _ = wa at *
  have ROW := Lib.hid row
  have BEL := Lib.hid bel
  have hwa : w.heap.size + 1 ≤ wa.heap.size := lt_row row
  have CX := Lib.hid (fun (w' : World) (hb : Below (w.heap.size + 1) wa w') => cells10 ((hb.block w.heap.size (by omega)).trans ROW.out))
  clear row bel
  obtain ⟨c0, c1, c2, c3, c4, c5, c6, c7, c8, c9⟩ := CX.out wa (Below.refl _ _)
  go_wp2_with fail
  with_reducible refine (IB.out wa (HL.out.later BEL.out)).mono ?_
  rintro e w1 ⟨rfl, hb1⟩
  have H1 := Lib.hid (show Below (w.heap.size + 1) wa w1 from hb1.mono hwa)
  clear hb1 c0 c1 c2 c3 c4 c5 c6 c7 c8 c9 IB
  obtain ⟨c0, c1, c2, c3, c4, c5, c6, c7, c8, c9⟩ := CX.out w1 H1.out
  go_wp2_with fail
  with_reducible refine (IF.out w1).mono ?_
  rintro e w2 ⟨rfl, hb2⟩
  have H2 := Lib.hid (H1.out.trans (hb2.mono (Nat.le_trans hwa H1.out.size)))
  clear hb2 c0 c1 c2 c3 c4 c5 c6 c7 c8 c9 IF
  obtain ⟨c0, c1, c2, c3, c4, c5, c6, c7, c8, c9⟩ := CX.out w2 H2.out
  go_wp2_with fail
  with_reducible refine (FB.out w2).mono ?_
  rintro e w3 ⟨rfl, hb3⟩
  have H3 := Lib.hid (H2.out.trans (hb3.mono (Nat.le_trans hwa H2.out.size)))
  clear hb3 c0 c1 c2 c3 c4 c5 c6 c7 c8 c9 FB
  have os : OwnS (w.heap.size + 1) (.slice (some ⟨w3.heap.size, 0, none⟩) 1 1) (lowS (firstN 4 z ph) 1) (w3.alloc (.cells #[.int .u8 (n8 x)] 5)) := ⟨1, _, Own.made x w3 (Nat.le_trans hwa H3.out.size), L1.out⟩
  have hb4 := H3.out.alloc (Nat.le_trans hwa H3.out.size) (.cells #[.int .u8 (n8 x)] 5)
  have OS4 := Lib.hid os
  have H4 := Lib.hid hb4
  clear os hb4
  have z1 := lowS_size (firstN 4 z ph) 1
  generalize lowS (firstN 4 z ph) 1 = Q1 at *
  go_upto_region 4 with (fail)
  generalize w3.alloc _ = w4 at *
  obtain ⟨c0, c1, c2, c3, c4, c5, c6, c7, c8, c9⟩ := CX.out w4 H4.out
  have RES := Lib.hid (fun (w' : World) (hb : Below (w.heap.size + 1) wa w') => BEL.out.trans (show Below w.heap.size wa w' from hb.mono (Nat.le_succ _)))
  go_wp2_with (first
    | (refine wpList_append_S (o := ⟨some 24, _, _, _, _, _⟩) rfl _ _ rfl rfl rfl OS4.out (by omega) ?_
       intro v5 w5 os5 b5
       have OS5 := Lib.hid os5
       have H5 := Lib.hid (H4.out.trans b5)
       clear os5 b5 c0 c1 c2 c3 c4 c5 c6 c7 c8 c9
       obtain ⟨c0, c1, c2, c3, c4, c5, c6, c7, c8, c9⟩ := CX.out w5 H5.out)
    | fail)
  have AN := Lib.hid (appendNumber_S N z w5 OS5.out (by omega) (by rw [ByteArray.size_append]; omega))
  refine AN.out.mono ?_
  rintro e w6 ⟨v6, rfl, os6, b6⟩
  have H6 := Lib.hid (RES.out w6 (H5.out.trans b6))
  have OS6 := Lib.hid os6
  clear os6 b6 AN c0 c1 c2 c3 c4 c5 c6 c7 c8 c9
  go_wp2_with fail
  go_ret2
  exact ⟨v6, rfl, by rw [PE.out]; exact OS6.out, H6.out⟩
set_option maxHeartbeats 16000000 in
theorem put_3 (v l N : Int) (z : Nat) (D S : ByteArray) (tf : Nat → BitVec 8) (nt : Nat) (ph : Bool) (a : Option Addr) (c : Nat) (G : List Int) (w : World) (hL : IntsIn w (.slice a G.length c) G) (hin : inB G D.size S.size nt v l N (z : Int)) (hf : inF 3 v l N (z : Int) S.size nt G.length ph) (tab : Tab w) :
    Calls Tryd.prog 33 #[.agg (hdC 3 v D S (strOf tf nt) l N (z : Int) ph (.slice a G.length c))] w fun e w' => ∃ b, e = .returned (.tuple #[b, .int .i64 0]) ∧ OwnS (w.heap.size + 1) b (hputS 3 v D S tf nt l N z ph G) w' ∧ Below w.heap.size w w' := by
  obtain ⟨_, hG16, hd, hs, hnt, hv, hl, hN, hz⟩ := hin
  have hin' : inB G D.size S.size nt v l N (z : Int) := ⟨by assumption, hG16, hd, hs, hnt, hv, hl, hN, hz⟩
  have IB := Lib.hid (fun (w' : World) (h : IntsIn w' (.slice a G.length c) G) => inBounds_any 3 v l N (z : Int) D S (strOf tf nt) D.size S.size nt rfl rfl (strOf_size _ _) ph (.slice a G.length c) G w' h)
  have IF := Lib.hid (fun (w' : World) => inForm_any 3 v l N (z : Int) D S (strOf tf nt) S.size nt G.length rfl (strOf_size _ _) ph a c w')
  rw [decide_eq_true hin'] at IB
  rw [decide_eq_true hf] at IF
  have hz' : (3 : Int) = 3 ∨ (3 : Int) = 5 ∨ (z : Int) = 1 ∨ (z : Int) = 2 ∨ (z : Int) = 3 ∨ (z : Int) = 4 := by
    unfold inF at hf
    omega
  have FB := Lib.hid (fun (w' : World) => firstByte_any 3 v l N (z : Int) D S (strOf tf nt) ph (.slice a G.length c) w' (by omega) hz')
  have HL := Lib.hid hL
  have TB := Lib.hid tab
  have hz4 : z ≤ 4 := by omega
  have hgB : 1 < w.heap.size + 1 := Nat.lt_succ_of_lt tab.lt
  have L1 := Lib.hid (lowS_one (BitVec.ofInt 8 (firstN 3 z ph)) (firstN 3 z ph) rfl)
  have PE : Hid (hputS 3 v D S tf nt l N z ph G = preS 3 v z ph D S ++ strOf tf nt) := Lib.hid (by unfold hputS; simp)
  obtain ⟨x, hx⟩ : ∃ x, BitVec.ofInt 8 (firstN 3 z ph) = x := ⟨_, rfl⟩
  rw [hx] at FB L1
  obtain ⟨n, hn⟩ : ∃ n, G.length = n := ⟨_, rfl⟩
  have HN := Lib.hid hn
  rw [hn] at IB IF FB HL ⊢
  obtain ⟨T, hT⟩ : ∃ T, strOf tf nt = T := ⟨_, rfl⟩
  have HT := Lib.hid hT
  have hTs : T.size = nt := by rw [← hT]; exact strOf_size _ _
  rw [hT] at IB IF FB ⊢
  clear hin' hf hL hz' tab hx hn hT hv hl hN
  unfold hdC at IB IF FB ⊢
  go_enter Tryd.func33, Tryd.ntmps33
  have row := heap_alloc_last w (.cells #[.int .i64 3, .int .i64 v, .string D, .string S, .string T, .int .i64 l, .int .i64 N, .int .i64 (z : Int), .bool ph, .slice a n c] 66)
  have bel := (Below.refl w.heap.size w).alloc (Nat.le_refl _) (.cells #[.int .i64 3, .int .i64 v, .string D, .string S, .string T, .int .i64 l, .int .i64 N, .int .i64 (z : Int), .bool ph, .slice a n c] 66)
  go_upto_region 1 with (fail)
  generalize w.alloc _ = wa at *
  have ROW := Lib.hid row
  have BEL := Lib.hid bel
  have hwa : w.heap.size + 1 ≤ wa.heap.size := lt_row row
  have CX := Lib.hid (fun (w' : World) (hb : Below (w.heap.size + 1) wa w') => cells10 ((hb.block w.heap.size (by omega)).trans ROW.out))
  clear row bel
  obtain ⟨c0, c1, c2, c3, c4, c5, c6, c7, c8, c9⟩ := CX.out wa (Below.refl _ _)
  go_wp2_with fail
  with_reducible refine (IB.out wa (HL.out.later BEL.out)).mono ?_
  rintro e w1 ⟨rfl, hb1⟩
  have H1 := Lib.hid (show Below (w.heap.size + 1) wa w1 from hb1.mono hwa)
  clear hb1 c0 c1 c2 c3 c4 c5 c6 c7 c8 c9 IB
  obtain ⟨c0, c1, c2, c3, c4, c5, c6, c7, c8, c9⟩ := CX.out w1 H1.out
  go_wp2_with fail
  with_reducible refine (IF.out w1).mono ?_
  rintro e w2 ⟨rfl, hb2⟩
  have H2 := Lib.hid (H1.out.trans (hb2.mono (Nat.le_trans hwa H1.out.size)))
  clear hb2 c0 c1 c2 c3 c4 c5 c6 c7 c8 c9 IF
  obtain ⟨c0, c1, c2, c3, c4, c5, c6, c7, c8, c9⟩ := CX.out w2 H2.out
  go_wp2_with fail
  with_reducible refine (FB.out w2).mono ?_
  rintro e w3 ⟨rfl, hb3⟩
  have H3 := Lib.hid (H2.out.trans (hb3.mono (Nat.le_trans hwa H2.out.size)))
  clear hb3 c0 c1 c2 c3 c4 c5 c6 c7 c8 c9 FB
  have os : OwnS (w.heap.size + 1) (.slice (some ⟨w3.heap.size, 0, none⟩) 1 1) (lowS (firstN 3 z ph) 1) (w3.alloc (.cells #[.int .u8 (n8 x)] 5)) := ⟨1, _, Own.made x w3 (Nat.le_trans hwa H3.out.size), L1.out⟩
  have hb4 := H3.out.alloc (Nat.le_trans hwa H3.out.size) (.cells #[.int .u8 (n8 x)] 5)
  have OS4 := Lib.hid os
  have H4 := Lib.hid hb4
  clear os hb4
  have z1 := lowS_size (firstN 3 z ph) 1
  generalize hQ1 : lowS (firstN 3 z ph) 1 = Q1 at *
  have HQ1 := Lib.hid hQ1
  clear hQ1
  go_upto_region 4 with (fail)
  generalize w3.alloc _ = w4 at *
  obtain ⟨c0, c1, c2, c3, c4, c5, c6, c7, c8, c9⟩ := CX.out w4 H4.out
  have RES := Lib.hid (fun (w' : World) (hb : Below (w.heap.size + 1) wa w') => BEL.out.trans (show Below w.heap.size wa w' from hb.mono (Nat.le_succ _)))
  have AV := Lib.hid (fun (B : Nat) (b : Value) (Q : ByteArray) (w' : World) (h : OwnS B b Q w') (hq : Q.size ≤ 1000) => (show Calls Tryd.prog 61 #[b, .int .i64 v, .int .i64 4] w' fun e w'' => ∃ v', e = .returned v' ∧ OwnS B v' (Q ++ lowS v 4) w'' ∧ Below B w' w'' from by
    have h := appendNumber_S v 4 w' h (by omega) (by omega)
    exact h))
  go_wp2_with fail
  with_reducible refine (AV.out _ _ _ w4 OS4.out (by omega)).mono ?_
  rintro e w5 ⟨v5, rfl, os5, b5⟩
  have OS5 := Lib.hid os5
  have H5 := Lib.hid (H4.out.trans b5)
  clear os5 b5 AV c0 c1 c2 c3 c4 c5 c6 c7 c8 c9
  obtain ⟨c0, c1, c2, c3, c4, c5, c6, c7, c8, c9⟩ := CX.out w5 H5.out
  have z2 : (Q1 ++ lowS v 4).size = 5 := by rw [ByteArray.size_append, z1, lowS_size]
  generalize hQ2 : Q1 ++ lowS v 4 = Q2 at *
  go_wp2_with fail
  with_reducible refine (appendName_S D w5 OS5.out (by omega) (by omega)).mono ?_
  rintro e w6 ⟨v6, rfl, os6, b6⟩
  have OS6 := Lib.hid os6
  have H6 := Lib.hid (H5.out.trans b6)
  clear os6 b6 c0 c1 c2 c3 c4 c5 c6 c7 c8 c9
  obtain ⟨c0, c1, c2, c3, c4, c5, c6, c7, c8, c9⟩ := CX.out w6 H6.out
  have z3 : (Q2 ++ (lowS (D.size : Int) 1 ++ D)).size ≤ 30 := by rw [ByteArray.size_append, ByteArray.size_append, z2, lowS_size]; omega
  generalize hQ3 : Q2 ++ (lowS (D.size : Int) 1 ++ D) = Q3 at *
  go_wp2_with fail
  with_reducible refine (appendName_S S w6 OS6.out (by omega) (by omega)).mono ?_
  rintro e w7 ⟨v7, rfl, os7, b7⟩
  have OS7 := Lib.hid os7
  have H7 := Lib.hid (H6.out.trans b7)
  clear os7 b7 c0 c1 c2 c3 c4 c5 c6 c7 c8 c9
  obtain ⟨c0, c1, c2, c3, c4, c5, c6, c7, c8, c9⟩ := CX.out w7 H7.out
  have z4 : (Q3 ++ (lowS (S.size : Int) 1 ++ S)).size ≤ 60 := by rw [ByteArray.size_append, ByteArray.size_append, lowS_size]; omega
  have PQ : Hid (preS 3 v z ph D S = Q3 ++ (lowS (S.size : Int) 1 ++ S)) := Lib.hid (by unfold preS; rw [HQ1.out, hQ2, hQ3])
  generalize Q3 ++ (lowS (S.size : Int) 1 ++ S) = Q4 at *
  clear hQ2 hQ3
  go_wp2_with (first
    | (refine wpList_append_S (o := ⟨some 50, _, _, _, _, _⟩) rfl _ _ rfl rfl rfl OS7.out (by omega) ?_
       intro v8 w8 os8 b8
       have OS8 := Lib.hid os8
       have H8 := Lib.hid (RES.out w8 (H7.out.trans b8))
       clear os8 b8 c0 c1 c2 c3 c4 c5 c6 c7 c8 c9)
    | fail)
  go_ret2
  exact ⟨v8, rfl, by rw [PE.out, PQ.out, HT.out]; exact OS8.out, H8.out⟩
set_option maxHeartbeats 16000000 in
theorem put_1 (v l N : Int) (z : Nat) (D S : ByteArray) (tf : Nat → BitVec 8) (nt : Nat) (ph : Bool) (a : Option Addr) (c : Nat) (G : List Int) (w : World) (hL : IntsIn w (.slice a G.length c) G) (hin : inB G D.size S.size nt v l N (z : Int)) (hf : inF 1 v l N (z : Int) S.size nt G.length ph) (tab : Tab w) :
    Calls Tryd.prog 33 #[.agg (hdC 1 v D S (strOf tf nt) l N (z : Int) ph (.slice a G.length c))] w fun e w' => ∃ b, e = .returned (.tuple #[b, .int .i64 0]) ∧ OwnS (w.heap.size + 1) b (hputS 1 v D S tf nt l N z ph G) w' ∧ Below w.heap.size w w' := by
  obtain ⟨_, hG16, hd, hs, hnt, hv, hl, hN, hz⟩ := hin
  have hin' : inB G D.size S.size nt v l N (z : Int) := ⟨by assumption, hG16, hd, hs, hnt, hv, hl, hN, hz⟩
  have IB := Lib.hid (fun (w' : World) (h : IntsIn w' (.slice a G.length c) G) => inBounds_any 1 v l N (z : Int) D S (strOf tf nt) D.size S.size nt rfl rfl (strOf_size _ _) ph (.slice a G.length c) G w' h)
  have IF := Lib.hid (fun (w' : World) => inForm_any 1 v l N (z : Int) D S (strOf tf nt) S.size nt G.length rfl (strOf_size _ _) ph a c w')
  rw [decide_eq_true hin'] at IB
  rw [decide_eq_true hf] at IF
  have hz' : (1 : Int) = 3 ∨ (1 : Int) = 5 ∨ (z : Int) = 1 ∨ (z : Int) = 2 ∨ (z : Int) = 3 ∨ (z : Int) = 4 := by
    unfold inF at hf
    omega
  have FB := Lib.hid (fun (w' : World) => firstByte_any 1 v l N (z : Int) D S (strOf tf nt) ph (.slice a G.length c) w' (by omega) hz')
  have HL := Lib.hid hL
  have TB := Lib.hid tab
  have hz4 : z ≤ 4 := by omega
  have hgB : 1 < w.heap.size + 1 := Nat.lt_succ_of_lt tab.lt
  have L1 := Lib.hid (lowS_one (BitVec.ofInt 8 (firstN 1 z ph)) (firstN 1 z ph) rfl)
  have PE : Hid (hputS 1 v D S tf nt l N z ph G = preS 1 v z ph D S ++ lenS l ++ lowS N z) := Lib.hid (by unfold hputS; simp)
  obtain ⟨x, hx⟩ : ∃ x, BitVec.ofInt 8 (firstN 1 z ph) = x := ⟨_, rfl⟩
  rw [hx] at FB L1
  obtain ⟨n, hn⟩ : ∃ n, G.length = n := ⟨_, rfl⟩
  have HN := Lib.hid hn
  rw [hn] at IB IF FB HL ⊢
  obtain ⟨T, hT⟩ : ∃ T, strOf tf nt = T := ⟨_, rfl⟩
  have HT := Lib.hid hT
  have hTs : T.size = nt := by rw [← hT]; exact strOf_size _ _
  rw [hT] at IB IF FB ⊢
  obtain ⟨hl0, hl1⟩ := hl
  clear hin' hf hL hz' tab hx hn hT hv hN
  unfold hdC at IB IF FB ⊢
  go_enter Tryd.func33, Tryd.ntmps33
  have row := heap_alloc_last w (.cells #[.int .i64 1, .int .i64 v, .string D, .string S, .string T, .int .i64 l, .int .i64 N, .int .i64 (z : Int), .bool ph, .slice a n c] 66)
  have bel := (Below.refl w.heap.size w).alloc (Nat.le_refl _) (.cells #[.int .i64 1, .int .i64 v, .string D, .string S, .string T, .int .i64 l, .int .i64 N, .int .i64 (z : Int), .bool ph, .slice a n c] 66)
  go_upto_region 1 with (fail)
  generalize w.alloc _ = wa at *
  have ROW := Lib.hid row
  have BEL := Lib.hid bel
  have hwa : w.heap.size + 1 ≤ wa.heap.size := lt_row row
  have CX := Lib.hid (fun (w' : World) (hb : Below (w.heap.size + 1) wa w') => cells10 ((hb.block w.heap.size (by omega)).trans ROW.out))
  clear row bel
  obtain ⟨c0, c1, c2, c3, c4, c5, c6, c7, c8, c9⟩ := CX.out wa (Below.refl _ _)
  go_wp2_with fail
  with_reducible refine (IB.out wa (HL.out.later BEL.out)).mono ?_
  rintro e w1 ⟨rfl, hb1⟩
  have H1 := Lib.hid (show Below (w.heap.size + 1) wa w1 from hb1.mono hwa)
  clear hb1 c0 c1 c2 c3 c4 c5 c6 c7 c8 c9 IB
  obtain ⟨c0, c1, c2, c3, c4, c5, c6, c7, c8, c9⟩ := CX.out w1 H1.out
  go_wp2_with fail
  with_reducible refine (IF.out w1).mono ?_
  rintro e w2 ⟨rfl, hb2⟩
  have H2 := Lib.hid (H1.out.trans (hb2.mono (Nat.le_trans hwa H1.out.size)))
  clear hb2 c0 c1 c2 c3 c4 c5 c6 c7 c8 c9 IF
  obtain ⟨c0, c1, c2, c3, c4, c5, c6, c7, c8, c9⟩ := CX.out w2 H2.out
  go_wp2_with fail
  with_reducible refine (FB.out w2).mono ?_
  rintro e w3 ⟨rfl, hb3⟩
  have H3 := Lib.hid (H2.out.trans (hb3.mono (Nat.le_trans hwa H2.out.size)))
  clear hb3 c0 c1 c2 c3 c4 c5 c6 c7 c8 c9 FB
  have os : OwnS (w.heap.size + 1) (.slice (some ⟨w3.heap.size, 0, none⟩) 1 1) (lowS (firstN 1 z ph) 1) (w3.alloc (.cells #[.int .u8 (n8 x)] 5)) := ⟨1, _, Own.made x w3 (Nat.le_trans hwa H3.out.size), L1.out⟩
  have hb4 := H3.out.alloc (Nat.le_trans hwa H3.out.size) (.cells #[.int .u8 (n8 x)] 5)
  have OS4 := Lib.hid os
  have H4 := Lib.hid hb4
  clear os hb4
  have z1 := lowS_size (firstN 1 z ph) 1
  generalize hQ1 : lowS (firstN 1 z ph) 1 = Q1 at *
  have HQ1 := Lib.hid hQ1
  clear hQ1
  go_upto_region 4 with (fail)
  generalize w3.alloc _ = w4 at *
  obtain ⟨c0, c1, c2, c3, c4, c5, c6, c7, c8, c9⟩ := CX.out w4 H4.out
  have RES := Lib.hid (fun (w' : World) (hb : Below (w.heap.size + 1) wa w') => BEL.out.trans (show Below w.heap.size wa w' from hb.mono (Nat.le_succ _)))
  have AV := Lib.hid (fun (B : Nat) (b : Value) (Q : ByteArray) (w' : World) (h : OwnS B b Q w') (hq : Q.size ≤ 1000) => (show Calls Tryd.prog 61 #[b, .int .i64 v, .int .i64 4] w' fun e w'' => ∃ v', e = .returned v' ∧ OwnS B v' (Q ++ lowS v 4) w'' ∧ Below B w' w'' from by
    have h := appendNumber_S v 4 w' h (by omega) (by omega)
    exact h))
  go_wp2_with fail
  with_reducible refine (AV.out _ _ _ w4 OS4.out (by omega)).mono ?_
  rintro e w5 ⟨v5, rfl, os5, b5⟩
  have OS5 := Lib.hid os5
  have H5 := Lib.hid (H4.out.trans b5)
  clear os5 b5 AV c0 c1 c2 c3 c4 c5 c6 c7 c8 c9
  obtain ⟨c0, c1, c2, c3, c4, c5, c6, c7, c8, c9⟩ := CX.out w5 H5.out
  have z2 : (Q1 ++ lowS v 4).size = 5 := by rw [ByteArray.size_append, z1, lowS_size]
  generalize hQ2 : Q1 ++ lowS v 4 = Q2 at *
  go_wp2_with fail
  with_reducible refine (appendName_S D w5 OS5.out (by omega) (by omega)).mono ?_
  rintro e w6 ⟨v6, rfl, os6, b6⟩
  have OS6 := Lib.hid os6
  have H6 := Lib.hid (H5.out.trans b6)
  clear os6 b6 c0 c1 c2 c3 c4 c5 c6 c7 c8 c9
  obtain ⟨c0, c1, c2, c3, c4, c5, c6, c7, c8, c9⟩ := CX.out w6 H6.out
  have z3 : (Q2 ++ (lowS (D.size : Int) 1 ++ D)).size ≤ 30 := by rw [ByteArray.size_append, ByteArray.size_append, z2, lowS_size]; omega
  generalize hQ3 : Q2 ++ (lowS (D.size : Int) 1 ++ D) = Q3 at *
  go_wp2_with fail
  with_reducible refine (appendName_S S w6 OS6.out (by omega) (by omega)).mono ?_
  rintro e w7 ⟨v7, rfl, os7, b7⟩
  have OS7 := Lib.hid os7
  have H7 := Lib.hid (H6.out.trans b7)
  clear os7 b7 c0 c1 c2 c3 c4 c5 c6 c7 c8 c9
  obtain ⟨c0, c1, c2, c3, c4, c5, c6, c7, c8, c9⟩ := CX.out w7 H7.out
  have z4 : (Q3 ++ (lowS (S.size : Int) 1 ++ S)).size ≤ 60 := by rw [ByteArray.size_append, ByteArray.size_append, lowS_size]; omega
  have PQ : Hid (preS 1 v z ph D S = Q3 ++ (lowS (S.size : Int) 1 ++ S)) := Lib.hid (by unfold preS; rw [HQ1.out, hQ2, hQ3])
  generalize Q3 ++ (lowS (S.size : Int) 1 ++ S) = Q4 at *
  clear hQ2 hQ3
  have AC := Lib.hid (appendCounted_S 1 v l N z D S T ph (.slice a n c) w7 OS7.out (by omega) (by decide) hl0 hl1 hz4 ((TB.out.later BEL.out).below hgB H7.out))
  unfold hdC at AC
  go_wp2_with fail
  with_reducible refine AC.out.mono ?_
  rintro e w8 ⟨v8, rfl, os8, b8⟩
  have OS8 := Lib.hid os8
  have H8 := Lib.hid (RES.out w8 (H7.out.trans b8))
  clear os8 b8 AC c0 c1 c2 c3 c4 c5 c6 c7 c8 c9
  go_wp2_with fail
  go_ret2
  exact ⟨v8, rfl, by rw [PE.out, PQ.out]; exact OS8.out, H8.out⟩
set_option maxHeartbeats 16000000 in
theorem put_2 (v l N : Int) (z : Nat) (D S : ByteArray) (tf : Nat → BitVec 8) (nt : Nat) (ph : Bool) (a : Option Addr) (c : Nat) (G : List Int) (w : World) (hL : IntsIn w (.slice a G.length c) G) (hin : inB G D.size S.size nt v l N (z : Int)) (hf : inF 2 v l N (z : Int) S.size nt G.length ph) (tab : Tab w) :
    Calls Tryd.prog 33 #[.agg (hdC 2 v D S (strOf tf nt) l N (z : Int) ph (.slice a G.length c))] w fun e w' => ∃ b, e = .returned (.tuple #[b, .int .i64 0]) ∧ OwnS (w.heap.size + 1) b (hputS 2 v D S tf nt l N z ph G) w' ∧ Below w.heap.size w w' := by
  obtain ⟨_, hG16, hd, hs, hnt, hv, hl, hN, hz⟩ := hin
  have hin' : inB G D.size S.size nt v l N (z : Int) := ⟨by assumption, hG16, hd, hs, hnt, hv, hl, hN, hz⟩
  have IB := Lib.hid (fun (w' : World) (h : IntsIn w' (.slice a G.length c) G) => inBounds_any 2 v l N (z : Int) D S (strOf tf nt) D.size S.size nt rfl rfl (strOf_size _ _) ph (.slice a G.length c) G w' h)
  have IF := Lib.hid (fun (w' : World) => inForm_any 2 v l N (z : Int) D S (strOf tf nt) S.size nt G.length rfl (strOf_size _ _) ph a c w')
  rw [decide_eq_true hin'] at IB
  rw [decide_eq_true hf] at IF
  have hz' : (2 : Int) = 3 ∨ (2 : Int) = 5 ∨ (z : Int) = 1 ∨ (z : Int) = 2 ∨ (z : Int) = 3 ∨ (z : Int) = 4 := by
    unfold inF at hf
    omega
  have FB := Lib.hid (fun (w' : World) => firstByte_any 2 v l N (z : Int) D S (strOf tf nt) ph (.slice a G.length c) w' (by omega) hz')
  have HL := Lib.hid hL
  have TB := Lib.hid tab
  have hz4 : z ≤ 4 := by omega
  have hgB : 1 < w.heap.size + 1 := Nat.lt_succ_of_lt tab.lt
  have L1 := Lib.hid (lowS_one (BitVec.ofInt 8 (firstN 2 z ph)) (firstN 2 z ph) rfl)
  have PE : Hid (hputS 2 v D S tf nt l N z ph G = preS 2 v z ph D S ++ lenS l ++ lowS N z) := Lib.hid (by unfold hputS; simp)
  obtain ⟨x, hx⟩ : ∃ x, BitVec.ofInt 8 (firstN 2 z ph) = x := ⟨_, rfl⟩
  rw [hx] at FB L1
  obtain ⟨n, hn⟩ : ∃ n, G.length = n := ⟨_, rfl⟩
  have HN := Lib.hid hn
  rw [hn] at IB IF FB HL ⊢
  obtain ⟨T, hT⟩ : ∃ T, strOf tf nt = T := ⟨_, rfl⟩
  have HT := Lib.hid hT
  have hTs : T.size = nt := by rw [← hT]; exact strOf_size _ _
  rw [hT] at IB IF FB ⊢
  obtain ⟨hl0, hl1⟩ := hl
  clear hin' hf hL hz' tab hx hn hT hv hN
  unfold hdC at IB IF FB ⊢
  go_enter Tryd.func33, Tryd.ntmps33
  have row := heap_alloc_last w (.cells #[.int .i64 2, .int .i64 v, .string D, .string S, .string T, .int .i64 l, .int .i64 N, .int .i64 (z : Int), .bool ph, .slice a n c] 66)
  have bel := (Below.refl w.heap.size w).alloc (Nat.le_refl _) (.cells #[.int .i64 2, .int .i64 v, .string D, .string S, .string T, .int .i64 l, .int .i64 N, .int .i64 (z : Int), .bool ph, .slice a n c] 66)
  go_upto_region 1 with (fail)
  generalize w.alloc _ = wa at *
  have ROW := Lib.hid row
  have BEL := Lib.hid bel
  have hwa : w.heap.size + 1 ≤ wa.heap.size := lt_row row
  have CX := Lib.hid (fun (w' : World) (hb : Below (w.heap.size + 1) wa w') => cells10 ((hb.block w.heap.size (by omega)).trans ROW.out))
  clear row bel
  obtain ⟨c0, c1, c2, c3, c4, c5, c6, c7, c8, c9⟩ := CX.out wa (Below.refl _ _)
  go_wp2_with fail
  with_reducible refine (IB.out wa (HL.out.later BEL.out)).mono ?_
  rintro e w1 ⟨rfl, hb1⟩
  have H1 := Lib.hid (show Below (w.heap.size + 1) wa w1 from hb1.mono hwa)
  clear hb1 c0 c1 c2 c3 c4 c5 c6 c7 c8 c9 IB
  obtain ⟨c0, c1, c2, c3, c4, c5, c6, c7, c8, c9⟩ := CX.out w1 H1.out
  go_wp2_with fail
  with_reducible refine (IF.out w1).mono ?_
  rintro e w2 ⟨rfl, hb2⟩
  have H2 := Lib.hid (H1.out.trans (hb2.mono (Nat.le_trans hwa H1.out.size)))
  clear hb2 c0 c1 c2 c3 c4 c5 c6 c7 c8 c9 IF
  obtain ⟨c0, c1, c2, c3, c4, c5, c6, c7, c8, c9⟩ := CX.out w2 H2.out
  go_wp2_with fail
  with_reducible refine (FB.out w2).mono ?_
  rintro e w3 ⟨rfl, hb3⟩
  have H3 := Lib.hid (H2.out.trans (hb3.mono (Nat.le_trans hwa H2.out.size)))
  clear hb3 c0 c1 c2 c3 c4 c5 c6 c7 c8 c9 FB
  have os : OwnS (w.heap.size + 1) (.slice (some ⟨w3.heap.size, 0, none⟩) 1 1) (lowS (firstN 2 z ph) 1) (w3.alloc (.cells #[.int .u8 (n8 x)] 5)) := ⟨1, _, Own.made x w3 (Nat.le_trans hwa H3.out.size), L1.out⟩
  have hb4 := H3.out.alloc (Nat.le_trans hwa H3.out.size) (.cells #[.int .u8 (n8 x)] 5)
  have OS4 := Lib.hid os
  have H4 := Lib.hid hb4
  clear os hb4
  have z1 := lowS_size (firstN 2 z ph) 1
  generalize hQ1 : lowS (firstN 2 z ph) 1 = Q1 at *
  have HQ1 := Lib.hid hQ1
  clear hQ1
  go_upto_region 4 with (fail)
  generalize w3.alloc _ = w4 at *
  obtain ⟨c0, c1, c2, c3, c4, c5, c6, c7, c8, c9⟩ := CX.out w4 H4.out
  have RES := Lib.hid (fun (w' : World) (hb : Below (w.heap.size + 1) wa w') => BEL.out.trans (show Below w.heap.size wa w' from hb.mono (Nat.le_succ _)))
  have AV := Lib.hid (fun (B : Nat) (b : Value) (Q : ByteArray) (w' : World) (h : OwnS B b Q w') (hq : Q.size ≤ 1000) => (show Calls Tryd.prog 61 #[b, .int .i64 v, .int .i64 4] w' fun e w'' => ∃ v', e = .returned v' ∧ OwnS B v' (Q ++ lowS v 4) w'' ∧ Below B w' w'' from by
    have h := appendNumber_S v 4 w' h (by omega) (by omega)
    exact h))
  go_wp2_with fail
  with_reducible refine (AV.out _ _ _ w4 OS4.out (by omega)).mono ?_
  rintro e w5 ⟨v5, rfl, os5, b5⟩
  have OS5 := Lib.hid os5
  have H5 := Lib.hid (H4.out.trans b5)
  clear os5 b5 AV c0 c1 c2 c3 c4 c5 c6 c7 c8 c9
  obtain ⟨c0, c1, c2, c3, c4, c5, c6, c7, c8, c9⟩ := CX.out w5 H5.out
  have z2 : (Q1 ++ lowS v 4).size = 5 := by rw [ByteArray.size_append, z1, lowS_size]
  generalize hQ2 : Q1 ++ lowS v 4 = Q2 at *
  go_wp2_with fail
  with_reducible refine (appendName_S D w5 OS5.out (by omega) (by omega)).mono ?_
  rintro e w6 ⟨v6, rfl, os6, b6⟩
  have OS6 := Lib.hid os6
  have H6 := Lib.hid (H5.out.trans b6)
  clear os6 b6 c0 c1 c2 c3 c4 c5 c6 c7 c8 c9
  obtain ⟨c0, c1, c2, c3, c4, c5, c6, c7, c8, c9⟩ := CX.out w6 H6.out
  have z3 : (Q2 ++ (lowS (D.size : Int) 1 ++ D)).size ≤ 30 := by rw [ByteArray.size_append, ByteArray.size_append, z2, lowS_size]; omega
  generalize hQ3 : Q2 ++ (lowS (D.size : Int) 1 ++ D) = Q3 at *
  go_wp2_with fail
  with_reducible refine (appendName_S S w6 OS6.out (by omega) (by omega)).mono ?_
  rintro e w7 ⟨v7, rfl, os7, b7⟩
  have OS7 := Lib.hid os7
  have H7 := Lib.hid (H6.out.trans b7)
  clear os7 b7 c0 c1 c2 c3 c4 c5 c6 c7 c8 c9
  obtain ⟨c0, c1, c2, c3, c4, c5, c6, c7, c8, c9⟩ := CX.out w7 H7.out
  have z4 : (Q3 ++ (lowS (S.size : Int) 1 ++ S)).size ≤ 60 := by rw [ByteArray.size_append, ByteArray.size_append, lowS_size]; omega
  have PQ : Hid (preS 2 v z ph D S = Q3 ++ (lowS (S.size : Int) 1 ++ S)) := Lib.hid (by unfold preS; rw [HQ1.out, hQ2, hQ3])
  generalize Q3 ++ (lowS (S.size : Int) 1 ++ S) = Q4 at *
  clear hQ2 hQ3
  have AC := Lib.hid (appendCounted_S 2 v l N z D S T ph (.slice a n c) w7 OS7.out (by omega) (by decide) hl0 hl1 hz4 ((TB.out.later BEL.out).below hgB H7.out))
  unfold hdC at AC
  go_wp2_with fail
  with_reducible refine AC.out.mono ?_
  rintro e w8 ⟨v8, rfl, os8, b8⟩
  have OS8 := Lib.hid os8
  have H8 := Lib.hid (RES.out w8 (H7.out.trans b8))
  clear os8 b8 AC c0 c1 c2 c3 c4 c5 c6 c7 c8 c9
  go_wp2_with fail
  go_ret2
  exact ⟨v8, rfl, by rw [PE.out, PQ.out]; exact OS8.out, H8.out⟩
set_option maxHeartbeats 16000000 in
theorem put_0 (v l N : Int) (z : Nat) (D S : ByteArray) (tf : Nat → BitVec 8) (nt : Nat) (ph : Bool) (a : Option Addr) (c : Nat) (G : List Int) (w : World) (hL : IntsIn w (.slice a G.length c) G) (hin : inB G D.size S.size nt v l N (z : Int)) (hf : inF 0 v l N (z : Int) S.size nt G.length ph) (tab : Tab w) :
    Calls Tryd.prog 33 #[.agg (hdC 0 v D S (strOf tf nt) l N (z : Int) ph (.slice a G.length c))] w fun e w' => ∃ b, e = .returned (.tuple #[b, .int .i64 0]) ∧ OwnS (w.heap.size + 1) b (hputS 0 v D S tf nt l N z ph G) w' ∧ Below w.heap.size w w' := by
  obtain ⟨_, hG16, hd, hs, hnt, hv, hl, hN, hz⟩ := hin
  have hin' : inB G D.size S.size nt v l N (z : Int) := ⟨by assumption, hG16, hd, hs, hnt, hv, hl, hN, hz⟩
  have IB := Lib.hid (fun (w' : World) (h : IntsIn w' (.slice a G.length c) G) => inBounds_any 0 v l N (z : Int) D S (strOf tf nt) D.size S.size nt rfl rfl (strOf_size _ _) ph (.slice a G.length c) G w' h)
  have IF := Lib.hid (fun (w' : World) => inForm_any 0 v l N (z : Int) D S (strOf tf nt) S.size nt G.length rfl (strOf_size _ _) ph a c w')
  rw [decide_eq_true hin'] at IB
  rw [decide_eq_true hf] at IF
  have hz' : (0 : Int) = 3 ∨ (0 : Int) = 5 ∨ (z : Int) = 1 ∨ (z : Int) = 2 ∨ (z : Int) = 3 ∨ (z : Int) = 4 := by
    unfold inF at hf
    omega
  have FB := Lib.hid (fun (w' : World) => firstByte_any 0 v l N (z : Int) D S (strOf tf nt) ph (.slice a G.length c) w' (by omega) hz')
  have HL := Lib.hid hL
  have TB := Lib.hid tab
  have hz4 : z ≤ 4 := by omega
  have hgB : 1 < w.heap.size + 1 := Nat.lt_succ_of_lt tab.lt
  have L1 := Lib.hid (lowS_one (BitVec.ofInt 8 (firstN 0 z ph)) (firstN 0 z ph) rfl)
  have PE : Hid (hputS 0 v D S tf nt l N z ph G = preS 0 v z ph D S ++ strOf (textB nt tf) (textK nt + nt) ++ lenS l ++ lowS N z) := Lib.hid (by unfold hputS; simp)
  obtain ⟨x, hx⟩ : ∃ x, BitVec.ofInt 8 (firstN 0 z ph) = x := ⟨_, rfl⟩
  rw [hx] at FB L1
  obtain ⟨n, hn⟩ : ∃ n, G.length = n := ⟨_, rfl⟩
  have HN := Lib.hid hn
  rw [hn] at IB IF FB HL ⊢
  obtain ⟨T, hT⟩ : ∃ T, strOf tf nt = T := ⟨_, rfl⟩
  have HT := Lib.hid hT
  have hTs : T.size = nt := by rw [← hT]; exact strOf_size _ _
  rw [hT] at IB IF FB ⊢
  obtain ⟨hl0, hl1⟩ := hl
  clear hin' hf hL hz' tab hx hn hT hv hN
  unfold hdC at IB IF FB ⊢
  go_enter Tryd.func33, Tryd.ntmps33
  have row := heap_alloc_last w (.cells #[.int .i64 0, .int .i64 v, .string D, .string S, .string T, .int .i64 l, .int .i64 N, .int .i64 (z : Int), .bool ph, .slice a n c] 66)
  have bel := (Below.refl w.heap.size w).alloc (Nat.le_refl _) (.cells #[.int .i64 0, .int .i64 v, .string D, .string S, .string T, .int .i64 l, .int .i64 N, .int .i64 (z : Int), .bool ph, .slice a n c] 66)
  go_upto_region 1 with (fail)
  generalize w.alloc _ = wa at *
  have ROW := Lib.hid row
  have BEL := Lib.hid bel
  have hwa : w.heap.size + 1 ≤ wa.heap.size := lt_row row
  have CX := Lib.hid (fun (w' : World) (hb : Below (w.heap.size + 1) wa w') => cells10 ((hb.block w.heap.size (by omega)).trans ROW.out))
  clear row bel
  obtain ⟨c0, c1, c2, c3, c4, c5, c6, c7, c8, c9⟩ := CX.out wa (Below.refl _ _)
  go_wp2_with fail
  with_reducible refine (IB.out wa (HL.out.later BEL.out)).mono ?_
  rintro e w1 ⟨rfl, hb1⟩
  have H1 := Lib.hid (show Below (w.heap.size + 1) wa w1 from hb1.mono hwa)
  clear hb1 c0 c1 c2 c3 c4 c5 c6 c7 c8 c9 IB
  obtain ⟨c0, c1, c2, c3, c4, c5, c6, c7, c8, c9⟩ := CX.out w1 H1.out
  go_wp2_with fail
  with_reducible refine (IF.out w1).mono ?_
  rintro e w2 ⟨rfl, hb2⟩
  have H2 := Lib.hid (H1.out.trans (hb2.mono (Nat.le_trans hwa H1.out.size)))
  clear hb2 c0 c1 c2 c3 c4 c5 c6 c7 c8 c9 IF
  obtain ⟨c0, c1, c2, c3, c4, c5, c6, c7, c8, c9⟩ := CX.out w2 H2.out
  go_wp2_with fail
  with_reducible refine (FB.out w2).mono ?_
  rintro e w3 ⟨rfl, hb3⟩
  have H3 := Lib.hid (H2.out.trans (hb3.mono (Nat.le_trans hwa H2.out.size)))
  clear hb3 c0 c1 c2 c3 c4 c5 c6 c7 c8 c9 FB
  have os : OwnS (w.heap.size + 1) (.slice (some ⟨w3.heap.size, 0, none⟩) 1 1) (lowS (firstN 0 z ph) 1) (w3.alloc (.cells #[.int .u8 (n8 x)] 5)) := ⟨1, _, Own.made x w3 (Nat.le_trans hwa H3.out.size), L1.out⟩
  have hb4 := H3.out.alloc (Nat.le_trans hwa H3.out.size) (.cells #[.int .u8 (n8 x)] 5)
  have OS4 := Lib.hid os
  have H4 := Lib.hid hb4
  clear os hb4
  have z1 := lowS_size (firstN 0 z ph) 1
  generalize hQ1 : lowS (firstN 0 z ph) 1 = Q1 at *
  have HQ1 := Lib.hid hQ1
  clear hQ1
  go_upto_region 4 with (fail)
  generalize w3.alloc _ = w4 at *
  obtain ⟨c0, c1, c2, c3, c4, c5, c6, c7, c8, c9⟩ := CX.out w4 H4.out
  have RES := Lib.hid (fun (w' : World) (hb : Below (w.heap.size + 1) wa w') => BEL.out.trans (show Below w.heap.size wa w' from hb.mono (Nat.le_succ _)))
  have AV := Lib.hid (fun (B : Nat) (b : Value) (Q : ByteArray) (w' : World) (h : OwnS B b Q w') (hq : Q.size ≤ 1000) => (show Calls Tryd.prog 61 #[b, .int .i64 v, .int .i64 4] w' fun e w'' => ∃ v', e = .returned v' ∧ OwnS B v' (Q ++ lowS v 4) w'' ∧ Below B w' w'' from by
    have h := appendNumber_S v 4 w' h (by omega) (by omega)
    exact h))
  go_wp2_with fail
  with_reducible refine (AV.out _ _ _ w4 OS4.out (by omega)).mono ?_
  rintro e w5 ⟨v5, rfl, os5, b5⟩
  have OS5 := Lib.hid os5
  have H5 := Lib.hid (H4.out.trans b5)
  clear os5 b5 AV c0 c1 c2 c3 c4 c5 c6 c7 c8 c9
  obtain ⟨c0, c1, c2, c3, c4, c5, c6, c7, c8, c9⟩ := CX.out w5 H5.out
  have z2 : (Q1 ++ lowS v 4).size = 5 := by rw [ByteArray.size_append, z1, lowS_size]
  generalize hQ2 : Q1 ++ lowS v 4 = Q2 at *
  go_wp2_with fail
  with_reducible refine (appendName_S D w5 OS5.out (by omega) (by omega)).mono ?_
  rintro e w6 ⟨v6, rfl, os6, b6⟩
  have OS6 := Lib.hid os6
  have H6 := Lib.hid (H5.out.trans b6)
  clear os6 b6 c0 c1 c2 c3 c4 c5 c6 c7 c8 c9
  obtain ⟨c0, c1, c2, c3, c4, c5, c6, c7, c8, c9⟩ := CX.out w6 H6.out
  have z3 : (Q2 ++ (lowS (D.size : Int) 1 ++ D)).size ≤ 30 := by rw [ByteArray.size_append, ByteArray.size_append, z2, lowS_size]; omega
  generalize hQ3 : Q2 ++ (lowS (D.size : Int) 1 ++ D) = Q3 at *
  go_wp2_with fail
  with_reducible refine (appendName_S S w6 OS6.out (by omega) (by omega)).mono ?_
  rintro e w7 ⟨v7, rfl, os7, b7⟩
  have OS7 := Lib.hid os7
  have H7 := Lib.hid (H6.out.trans b7)
  clear os7 b7 c0 c1 c2 c3 c4 c5 c6 c7 c8 c9
  obtain ⟨c0, c1, c2, c3, c4, c5, c6, c7, c8, c9⟩ := CX.out w7 H7.out
  have z4 : (Q3 ++ (lowS (S.size : Int) 1 ++ S)).size ≤ 60 := by rw [ByteArray.size_append, ByteArray.size_append, lowS_size]; omega
  have PQ : Hid (preS 0 v z ph D S = Q3 ++ (lowS (S.size : Int) 1 ++ S)) := Lib.hid (by unfold preS; rw [HQ1.out, hQ2, hQ3])
  generalize Q3 ++ (lowS (S.size : Int) 1 ++ S) = Q4 at *
  clear hQ2 hQ3
  have AC := Lib.hid (appendCounted_0 v l N z D S tf nt ph (.slice a n c) w7 OS7.out (by omega) hnt hl0 hl1 hz4 ((TB.out.later BEL.out).below hgB H7.out) hgB)
  rw [HT.out] at AC
  unfold hdC at AC
  go_wp2_with fail
  with_reducible refine AC.out.mono ?_
  rintro e w8 ⟨v8, rfl, os8, b8⟩
  have OS8 := Lib.hid os8
  have H8 := Lib.hid (RES.out w8 (H7.out.trans b8))
  clear os8 b8 AC c0 c1 c2 c3 c4 c5 c6 c7 c8 c9
  go_wp2_with fail
  go_ret2
  exact ⟨v8, rfl, by rw [PE.out, PQ.out]; exact OS8.out, H8.out⟩
set_option maxHeartbeats 16000000 in
theorem put_5 (v l N : Int) (z : Nat) (D S : ByteArray) (tf : Nat → BitVec 8) (nt : Nat) (ph : Bool) (a : Option Addr) (c : Nat) (G : List Int) (w : World) (hL : IntsIn w (.slice a G.length c) G) (hin : inB G D.size S.size nt v l N (z : Int)) (hf : inF 5 v l N (z : Int) S.size nt G.length ph) (tab : Tab w) :
    Calls Tryd.prog 33 #[.agg (hdC 5 v D S (strOf tf nt) l N (z : Int) ph (.slice a G.length c))] w fun e w' => ∃ b, e = .returned (.tuple #[b, .int .i64 0]) ∧ OwnS (w.heap.size + 1) b (hputS 5 v D S tf nt l N z ph G) w' ∧ Below w.heap.size w w' := by
  obtain ⟨_, hG16, hd, hs, hnt, hv, hl, hN, hz⟩ := hin
  have hin' : inB G D.size S.size nt v l N (z : Int) := ⟨by assumption, hG16, hd, hs, hnt, hv, hl, hN, hz⟩
  have IB := Lib.hid (fun (w' : World) (h : IntsIn w' (.slice a G.length c) G) => inBounds_any 5 v l N (z : Int) D S (strOf tf nt) D.size S.size nt rfl rfl (strOf_size _ _) ph (.slice a G.length c) G w' h)
  have IF := Lib.hid (fun (w' : World) => inForm_any 5 v l N (z : Int) D S (strOf tf nt) S.size nt G.length rfl (strOf_size _ _) ph a c w')
  rw [decide_eq_true hin'] at IB
  rw [decide_eq_true hf] at IF
  have hz' : (5 : Int) = 3 ∨ (5 : Int) = 5 ∨ (z : Int) = 1 ∨ (z : Int) = 2 ∨ (z : Int) = 3 ∨ (z : Int) = 4 := by
    unfold inF at hf
    omega
  have FB := Lib.hid (fun (w' : World) => firstByte_any 5 v l N (z : Int) D S (strOf tf nt) ph (.slice a G.length c) w' (by omega) hz')
  have HL := Lib.hid hL
  have TB := Lib.hid tab
  have hz4 : z ≤ 4 := by omega
  have hgB : 1 < w.heap.size + 1 := Nat.lt_succ_of_lt tab.lt
  have L1 := Lib.hid (lowS_one (BitVec.ofInt 8 (firstN 5 z ph)) (firstN 5 z ph) rfl)
  have PE : Hid (hputS 5 v D S tf nt l N z ph G = G.foldl (fun s x => s ++ lowS x 4) (preS 5 v z ph D S)) := Lib.hid (by unfold hputS; simp)
  obtain ⟨x, hx⟩ : ∃ x, BitVec.ofInt 8 (firstN 5 z ph) = x := ⟨_, rfl⟩
  rw [hx] at FB L1
  obtain ⟨n, hn⟩ : ∃ n, G.length = n := ⟨_, rfl⟩
  have HN := Lib.hid hn
  rw [hn] at IB IF FB HL ⊢
  obtain ⟨T, hT⟩ : ∃ T, strOf tf nt = T := ⟨_, rfl⟩
  have HT := Lib.hid hT
  have hTs : T.size = nt := by rw [← hT]; exact strOf_size _ _
  rw [hT] at IB IF FB ⊢
  clear hin' hf hL hz' tab hx hn hT hv hl hN
  unfold hdC at IB IF FB ⊢
  go_enter Tryd.func33, Tryd.ntmps33
  have row := heap_alloc_last w (.cells #[.int .i64 5, .int .i64 v, .string D, .string S, .string T, .int .i64 l, .int .i64 N, .int .i64 (z : Int), .bool ph, .slice a n c] 66)
  have bel := (Below.refl w.heap.size w).alloc (Nat.le_refl _) (.cells #[.int .i64 5, .int .i64 v, .string D, .string S, .string T, .int .i64 l, .int .i64 N, .int .i64 (z : Int), .bool ph, .slice a n c] 66)
  go_upto_region 1 with (fail)
  generalize w.alloc _ = wa at *
  have ROW := Lib.hid row
  have BEL := Lib.hid bel
  have hwa : w.heap.size + 1 ≤ wa.heap.size := lt_row row
  have CX := Lib.hid (fun (w' : World) (hb : Below (w.heap.size + 1) wa w') => cells10 ((hb.block w.heap.size (by omega)).trans ROW.out))
  clear row bel
  obtain ⟨c0, c1, c2, c3, c4, c5, c6, c7, c8, c9⟩ := CX.out wa (Below.refl _ _)
  go_wp2_with fail
  with_reducible refine (IB.out wa (HL.out.later BEL.out)).mono ?_
  rintro e w1 ⟨rfl, hb1⟩
  have H1 := Lib.hid (show Below (w.heap.size + 1) wa w1 from hb1.mono hwa)
  clear hb1 c0 c1 c2 c3 c4 c5 c6 c7 c8 c9 IB
  obtain ⟨c0, c1, c2, c3, c4, c5, c6, c7, c8, c9⟩ := CX.out w1 H1.out
  go_wp2_with fail
  with_reducible refine (IF.out w1).mono ?_
  rintro e w2 ⟨rfl, hb2⟩
  have H2 := Lib.hid (H1.out.trans (hb2.mono (Nat.le_trans hwa H1.out.size)))
  clear hb2 c0 c1 c2 c3 c4 c5 c6 c7 c8 c9 IF
  obtain ⟨c0, c1, c2, c3, c4, c5, c6, c7, c8, c9⟩ := CX.out w2 H2.out
  go_wp2_with fail
  with_reducible refine (FB.out w2).mono ?_
  rintro e w3 ⟨rfl, hb3⟩
  have H3 := Lib.hid (H2.out.trans (hb3.mono (Nat.le_trans hwa H2.out.size)))
  clear hb3 c0 c1 c2 c3 c4 c5 c6 c7 c8 c9 FB
  have os : OwnS (w.heap.size + 1) (.slice (some ⟨w3.heap.size, 0, none⟩) 1 1) (lowS (firstN 5 z ph) 1) (w3.alloc (.cells #[.int .u8 (n8 x)] 5)) := ⟨1, _, Own.made x w3 (Nat.le_trans hwa H3.out.size), L1.out⟩
  have hb4 := H3.out.alloc (Nat.le_trans hwa H3.out.size) (.cells #[.int .u8 (n8 x)] 5)
  have OS4 := Lib.hid os
  have H4 := Lib.hid hb4
  clear os hb4
  have z1 := lowS_size (firstN 5 z ph) 1
  generalize hQ1 : lowS (firstN 5 z ph) 1 = Q1 at *
  have HQ1 := Lib.hid hQ1
  clear hQ1
  go_upto_region 4 with (fail)
  generalize w3.alloc _ = w4 at *
  obtain ⟨c0, c1, c2, c3, c4, c5, c6, c7, c8, c9⟩ := CX.out w4 H4.out
  have RES := Lib.hid (fun (w' : World) (hb : Below (w.heap.size + 1) wa w') => BEL.out.trans (show Below w.heap.size wa w' from hb.mono (Nat.le_succ _)))
  have AV := Lib.hid (fun (B : Nat) (b : Value) (Q : ByteArray) (w' : World) (h : OwnS B b Q w') (hq : Q.size ≤ 1000) => (show Calls Tryd.prog 61 #[b, .int .i64 v, .int .i64 4] w' fun e w'' => ∃ v', e = .returned v' ∧ OwnS B v' (Q ++ lowS v 4) w'' ∧ Below B w' w'' from by
    have h := appendNumber_S v 4 w' h (by omega) (by omega)
    exact h))
  go_wp2_with fail
  with_reducible refine (AV.out _ _ _ w4 OS4.out (by omega)).mono ?_
  rintro e w5 ⟨v5, rfl, os5, b5⟩
  have OS5 := Lib.hid os5
  have H5 := Lib.hid (H4.out.trans b5)
  clear os5 b5 AV c0 c1 c2 c3 c4 c5 c6 c7 c8 c9
  obtain ⟨c0, c1, c2, c3, c4, c5, c6, c7, c8, c9⟩ := CX.out w5 H5.out
  have z2 : (Q1 ++ lowS v 4).size = 5 := by rw [ByteArray.size_append, z1, lowS_size]
  generalize hQ2 : Q1 ++ lowS v 4 = Q2 at *
  go_wp2_with fail
  with_reducible refine (appendName_S D w5 OS5.out (by omega) (by omega)).mono ?_
  rintro e w6 ⟨v6, rfl, os6, b6⟩
  have OS6 := Lib.hid os6
  have H6 := Lib.hid (H5.out.trans b6)
  clear os6 b6 c0 c1 c2 c3 c4 c5 c6 c7 c8 c9
  obtain ⟨c0, c1, c2, c3, c4, c5, c6, c7, c8, c9⟩ := CX.out w6 H6.out
  have z3 : (Q2 ++ (lowS (D.size : Int) 1 ++ D)).size ≤ 30 := by rw [ByteArray.size_append, ByteArray.size_append, z2, lowS_size]; omega
  generalize hQ3 : Q2 ++ (lowS (D.size : Int) 1 ++ D) = Q3 at *
  go_wp2_with fail
  with_reducible refine (appendName_S S w6 OS6.out (by omega) (by omega)).mono ?_
  rintro e w7 ⟨v7, rfl, os7, b7⟩
  have OS7 := Lib.hid os7
  have H7 := Lib.hid (H6.out.trans b7)
  clear os7 b7 c0 c1 c2 c3 c4 c5 c6 c7 c8 c9
  obtain ⟨c0, c1, c2, c3, c4, c5, c6, c7, c8, c9⟩ := CX.out w7 H7.out
  have z4 : (Q3 ++ (lowS (S.size : Int) 1 ++ S)).size ≤ 60 := by rw [ByteArray.size_append, ByteArray.size_append, lowS_size]; omega
  have PQ : Hid (preS 5 v z ph D S = Q3 ++ (lowS (S.size : Int) 1 ++ S)) := Lib.hid (by unfold preS; rw [HQ1.out, hQ2, hQ3])
  generalize Q3 ++ (lowS (S.size : Int) 1 ++ S) = Q4 at *
  clear hQ2 hQ3
  have AL := Lib.hid (fun (x : Int) (B : Nat) (b : Value) (Q : ByteArray) (w' : World) (h : OwnS B b Q w') (hq : Q.size ≤ 1000) => (show Calls Tryd.prog 61 #[b, .int .i64 x, .int .i64 4] w' fun e w'' => ∃ v', e = .returned v' ∧ OwnS B v' (Q ++ lowS x 4) w'' ∧ Below B w' w'' from by
    have h := appendNumber_S x 4 w' h (by omega) (by omega)
    exact h))
  have GT := Lib.hid (fun (i : Nat) (hi : i < G.length) => (show (G.take (i + 1)).foldl (fun s x => s ++ lowS x 4) Q4 = (G.take i).foldl (fun s x => s ++ lowS x 4) Q4 ++ lowS G[i] 4 from by rw [List.take_succ_eq_append_getElem hi, List.foldl_append]; rfl))
  have hn16 : n ≤ 16 := by have := HN.out; omega
  go_wp2_with fail
  go_loopw [4, 6, 56] (fun s4 s6 s56 wr => ∃ i : Nat, i ≤ n ∧ s56 = .int .i64 (i : Int) ∧ OwnS (w.heap.size + 1) s4 ((G.take i).foldl (fun s x => s ++ lowS x 4) Q4) wr ∧ ((G.take i).foldl (fun s x => s ++ lowS x 4) Q4).size ≤ 60 + 4 * i ∧ Below (w.heap.size + 1) wa wr) (fun _ _ s56 _ => n - (intOf s56).toNat)
  case atStart => exact ⟨0, by omega, rfl, OS7.out, by simpa using z4, H7.out⟩
  case round =>
    obtain ⟨i, hi, rfl, os, hsz, hb⟩ := hrel
    have OS := Lib.hid os
    have HB := Lib.hid hb
    clear os hb c0 c1 c2 c3 c4 c5 c6 c7 c8 c9
    by_cases hin : i < n
    · have hinI : (i : Int) < (n : Int) := by omega
      obtain ⟨a', c', e, _, hat⟩ := (HL.out.later (RES.out wr HB.out)).at_
      injection e with e1 e2 e3
      obtain ⟨b', o, ea, hlt, hcell⟩ := hat i (by rw [HN.out]; exact hin)
      rw [← e1] at ea
      obtain ⟨y, hy⟩ : ∃ y, G[i]'(by rw [HN.out]; exact hin) = y := ⟨_, rfl⟩
      have gt := GT.out i (by rw [HN.out]; exact hin)
      rw [hy] at hcell gt
      have GTI := Lib.hid gt
      subst ea
      clear gt hy hat e1 e2 e3 hlt
      generalize hQI : (G.take i).foldl (fun s x => s ++ lowS x 4) Q4 = QI at *
      clear hQI
      go_wp2_with fail
      with_reducible refine (AL.out y _ _ _ wr OS.out (by omega)).mono ?_
      rintro e w8 ⟨v8, rfl, os8, b8⟩
      have OS8 := Lib.hid os8
      have H8 := Lib.hid (HB.out.trans b8)
      clear os8 b8 hcell
      go_wp2_with fail
      go_roundw
      case rel => exact ⟨i + 1, by omega, by go_num, by rw [GTI.out]; exact OS8.out, by rw [GTI.out, ByteArray.size_append, lowS_size]; omega, H8.out⟩
      case measure => simp [intOf]; omega
    · obtain rfl : i = n := by omega
      have eG : Hid (G.take i = G) := Lib.hid (List.take_of_length_le (by rw [HN.out]; exact Nat.le_refl _))
      have RR := Lib.hid (RES.out wr HB.out)
      go_wp2_with fail
      go_ret2
      exact ⟨_, rfl, by rw [PE.out, PQ.out]; have h := OS.out; rw [eG.out] at h; exact h, RR.out⟩
end Go.Proofs.YtcgbhcmgddgheaaDoor
