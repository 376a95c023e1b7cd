/-
  name's reader: a part.
-/
import Derived.Test.YtddpfbeclmgndaaDoorNmN
namespace Go.Proofs.YtddpfbeclmgndaaDoor
open Go Go.RowKit Go.BigFrame
set_option linter.unusedSimpArgs false
set_option linter.unusedVariables false
/-- The next byte, the place behind it, the error. -/
def nx (f : Nat → BitVec 8) (n p e : Nat) : BitVec 8 × Nat × Nat := if e ≠ 0 then (0#8, p, e) else if n ≤ p then (0#8, p, 3) else (f p, p + 1, 0)
theorem n8_zero : n8 0#8 = 0 := by rw [n8_nat]; rfl
theorem next_any {q : Nat} {a : Option Addr} {n cap : Nat} {f : Nat → BitVec 8} {p l d : Nat} {tv : Value} {T : List (BitVec 8)} {thr : Bool} {e : Nat} {w : World} (h : Gd q a n cap f p l d tv T thr e w) :
    Calls Tryd.prog 45 #[.pointer (some ⟨q, 0, none⟩)] w (GdPost q a n cap f w (.int .u8 (n8 (nx f n p e).1)) (nx f n p e).2.1 l d tv T thr (nx f n p e).2.2) := by
  by_cases he : e = 0
  · subst he
    by_cases hp : n ≤ p
    · have hx : nx f n p 0 = (0#8, p, 3) := by unfold nx; rw [if_neg (by simp), if_pos hp]
      rw [hx, n8_zero]
      exact next_tail h hp
    · have hx : nx f n p 0 = (f p, p + 1, 0) := by unfold nx; rw [if_neg (by simp), if_neg hp]
      rw [hx]
      exact next_ok h (by omega)
  · have hx : nx f n p e = (0#8, p, e) := by unfold nx; rw [if_pos he]
    rw [hx, n8_zero]
    exact next_stop h he
/-- Place and error behind so many bytes of a part. -/
def pst (f : Nat → BitVec 8) (n p : Nat) : Nat → Nat × Nat
  | 0 => (p, 0)
  | i + 1 => ((nx f n (pst f n p i).1 (pst f n p i).2).2.1, if (nx f n (pst f n p i).1 (pst f n p i).2).2.2 = 0 ∧ okc (lowc (nx f n (pst f n p i).1 (pst f n p i).2).1) = false then 14 else (nx f n (pst f n p i).1 (pst f n p i).2).2.2)
/-- .. and the text. -/
def ptx (f : Nat → BitVec 8) (n p : Nat) : Nat → List (BitVec 8)
  | 0 => []
  | i + 1 => ptx f n p i ++ [lowc (nx f n (pst f n p i).1 (pst f n p i).2).1]
theorem ptx_len (f : Nat → BitVec 8) (n p : Nat) : ∀ i, (ptx f n p i).length = i
  | 0 => rfl
  | i + 1 => by rw [ptx, List.length_append, ptx_len f n p i]; rfl
theorem GrownV.row {w w2 : World} {v v' : Value} {q : Nat} {B : Nat} {A : List (BitVec 8)} (h : GrownV w w2 v v') (ho : OwnL (q + 1) v A w) (hq : q < w.heap.size) : w2.heap[q]? = w.heap[q]? :=
  h.block hq (fun e => by have := (Own.lt ho e).1; omega)
theorem Gd.text {q : Nat} {a : Option Addr} {n cap : Nat} {f : Nat → BitVec 8} {p l d : Nat} {tv tv' : Value} {T T' : List (BitVec 8)} {thr : Bool} {e : Nat} {w w2 : World} (h : Gd q a n cap f p l d tv T thr e w) (ho : OwnL (q + 1) tv' T' w2) (hg : GrownV w w2 tv tv') :
    Gd q a n cap f p l d tv' T' thr e (w2.setCell ⟨q, 4, none⟩ tv') ∧ Below q w (w2.setCell ⟨q, 4, none⟩ tv') ∧ w2.frozen? ⟨q, 4, none⟩ = false ∧ w2.cell? ⟨q, 4, none⟩ = some tv := by
  have hq := lt_row h.row
  have hr2 := (GrownV.row (B := 0) hg h.own hq).trans h.row
  have S := rowSet_cell w2 q 4 _ _ tv' hr2
  have hb : Below q w w2 := (hg.below h.own).mono (by omega)
  refine ⟨⟨S.row, ho.row S, h.inq.keep (hb.trans (S.below q (Nat.le_refl _)))⟩, hb.trans (S.below q (Nat.le_refl _)), frozen_of_row _ _ _ _ _ hr2, ?_⟩
  rw [cell_of_row _ _ _ _ _ _ hr2]
  rfl
theorem OwnL.snoc {B : Nat} {v : Value} {A : List (BitVec 8)} {c : BitVec 8} {w : World} (h : Own B v (A.length + 1) (joinb (bx A) A.length fun _ => c) w) : OwnL B v (A ++ [c]) w :=
  OwnL.join h rfl (fun i hi => by obtain rfl : i = 0 := by omega
                                  simp [bx])
set_option maxHeartbeats 8000000 in
set_option maxRecDepth 100000 in
theorem part_any {q : Nat} {a : Option Addr} {n cap : Nat} {f : Nat → BitVec 8} {p l d : Nat} {tv : Value} {T : List (BitVec 8)} {thr : Bool} {w : World} (h : Gd q a n cap f p l d tv T thr 0 w) (k : Nat) (hk : k ≤ 255) (hT : T.length ≤ 1000) :
    Calls Tryd.prog 47 #[.pointer (some ⟨q, 0, none⟩), .int .i64 (k : Int)] w fun x w' => (∃ v, x = .returned v) ∧ ∃ tv' T', Gd q a n cap f (pst f n p k).1 l d tv' T' thr (if (pst f n p k).2 = 0 ∧ 254 < T'.length then 14 else (pst f n p k).2) w' ∧ T' = T ++ ptx f n p k ++ [46#8] ∧ Below q w w' := by
  have H := Lib.hid h
  clear h
  go_enter Tryd.func47, Tryd.ntmps47
  go_wp2_with fail
  go_loopw [6] (fun s6 wr => ∃ (i : Nat) (tv' : Value), i ≤ k ∧ s6 = .int .i64 (i : Int) ∧ Hid (Gd q a n cap f (pst f n p i).1 l d tv' (T ++ ptx f n p i) thr (pst f n p i).2 wr) ∧ Hid (Below q w wr)) (fun s6 _ => k - (intOf s6).toNat)
  case atStart => exact ⟨0, tv, by omega, rfl, by rw [ptx, List.append_nil]; exact H.out, Below.refl _ _⟩
  case round =>
    obtain ⟨i, tv', hi, rfl, HG, HB⟩ := hrel
    by_cases hik : i < k
    · have hik' : (i : Int) < (k : Int) := by omega
      have hl := ptx_len f n p i
      have hlen : (T ++ ptx f n p i).length ≤ 1300 := by rw [List.length_append]; omega
      have NX := Lib.hid (next_any HG.out)
      have hps : Hid (pst f n p (i + 1) = ((nx f n (pst f n p i).1 (pst f n p i).2).2.1, if (nx f n (pst f n p i).1 (pst f n p i).2).2.2 = 0 ∧ okc (lowc (nx f n (pst f n p i).1 (pst f n p i).2).1) = false then 14 else (nx f n (pst f n p i).1 (pst f n p i).2).2.2)) := rfl
      have hpt : Hid (T ++ ptx f n p (i + 1) = (T ++ ptx f n p i) ++ [lowc (nx f n (pst f n p i).1 (pst f n p i).2).1]) := by rw [ptx, ← List.append_assoc]; exact rfl
      generalize nx f n (pst f n p i).1 (pst f n p i).2 = X at *
      obtain ⟨c, p1, e1⟩ := X
      dsimp only at *
      generalize T ++ ptx f n p i = TT at *
      have HLn := Lib.hid hlen
      have SM := Lib.hid (small_any c)
      have AL := Lib.hid (allowed_any (lowc c))
      generalize lowc c = C at *
      clear hl hlen
      by_cases he : e1 = 0
      · subst he
        cases hc : okc C with
        | true =>
          rw [hc] at AL hps
          rw [if_neg (by simp)] at hps
          have hc2 := Lib.hid hc
          clear hc
          go_upto_region 5 with (first | (go_at_call 45; refine NX.out.mono ?_; clear NX; rintro e w1 ⟨rfl, G1, B1⟩; obtain ⟨c0, c1, c2, c3, c4, c5, c6⟩ := cells7 G1.row) | (go_at_call 58; refine (SM.out _).mono ?_; rintro e w' ⟨rfl, rfl⟩) | (go_at_call 53; refine (AL.out _).mono ?_; rintro e w' ⟨rfl, rfl⟩))
          have G5 := Lib.hid G1
          have BB : Hid (Below q w w1) := HB.out.trans B1
          clear c0 c1 c2 c3 c4 c5 c6 G1 B1
          have O5 : Hid (Own (q + 1) tv' TT.length (bx TT) w1) := G5.out.own
          have S1 := Lib.hid (src_one_new w1 C)
          have hTT := HLn.out
          have c4 := (cells7 G5.out.row).2.2.2.2.1
          go_wp2_with (refine wpList_append_bytes (o := ⟨some 31, _, _, _, _, _⟩) rfl _ _ 29 rfl rfl rfl (O5.out.alloc _) S1.out (by omega) ?_; intro v2 w2 ho2 hg2; obtain ⟨g2, p2, hv2, -⟩ := (OwnL.snoc ho2).slice (by simp); have el2 : (TT ++ [C]).length = TT.length + 1 := (by simp); rw [el2] at hv2; subst hv2; clear el2; have TX := G5.out.text (OwnL.snoc ho2) ((GrownV.alloc _ _ _).trans hg2); have f2 := TX.2.2.1; have cc2 := TX.2.2.2)
          go_roundw
          case rel => exact ⟨i + 1, _, by omega, by rw [Int.natCast_add]; rfl, by rw [hps.out, hpt.out]; exact TX.1, BB.out.trans TX.2.1⟩
          case measure => simp only [intOf]; omega
        | false =>
          rw [hc] at AL hps
          rw [if_pos ⟨rfl, rfl⟩] at hps
          have hc2 := Lib.hid hc
          clear hc
          go_upto_region 4 with (first | (go_at_call 45; refine NX.out.mono ?_; clear NX; rintro e w1 ⟨rfl, G1, B1⟩; obtain ⟨c0, c1, c2, c3, c4, c5, c6⟩ := cells7 G1.row) | (go_at_call 58; refine (SM.out _).mono ?_; rintro e w' ⟨rfl, rfl⟩) | (go_at_call 53; refine (AL.out _).mono ?_; rintro e w' ⟨rfl, rfl⟩))
          have fz : ∀ j, w1.frozen? ⟨q, j, none⟩ = false := fun j => frozen_of_row _ _ _ _ _ G1.row
          have S6 := rowSet_cell w1 q 6 _ _ (.int .i64 14) G1.row
          have hs := G1.set (p' := p1) (l' := l) (d' := d) (thr' := thr) (e' := 14) S6
          have HS := Lib.hid hs
          clear S6 hs
          go_upto_region 5 with fail
          have G5 := Lib.hid HS.out.1
          have BB : Hid (Below q w (w1.setCell ⟨q, 6, none⟩ (.int .i64 14))) := (HB.out.trans B1).trans HS.out.2
          clear c0 c1 c2 c3 c4 c5 c6 G1 B1 fz HS
          generalize w1.setCell _ _ = w3 at *
          have O5 : Hid (Own (q + 1) tv' TT.length (bx TT) w3) := G5.out.own
          have S1 := Lib.hid (src_one_new w3 C)
          have hTT := HLn.out
          have c4 := (cells7 G5.out.row).2.2.2.2.1
          go_wp2_with (refine wpList_append_bytes (o := ⟨some 31, _, _, _, _, _⟩) rfl _ _ 29 rfl rfl rfl (O5.out.alloc _) S1.out (by omega) ?_; intro v2 w2 ho2 hg2; obtain ⟨g2, p2, hv2, -⟩ := (OwnL.snoc ho2).slice (by simp); have el2 : (TT ++ [C]).length = TT.length + 1 := (by simp); rw [el2] at hv2; subst hv2; clear el2; have TX := G5.out.text (OwnL.snoc ho2) ((GrownV.alloc _ _ _).trans hg2); have f2 := TX.2.2.1; have cc2 := TX.2.2.2)
          go_roundw
          case rel => exact ⟨i + 1, _, by omega, by rw [Int.natCast_add]; rfl, by rw [hps.out, hpt.out]; exact TX.1, BB.out.trans TX.2.1⟩
          case measure => simp only [intOf]; omega
      · have hne : ((e1 : Int) == 0) = false := beq_eq_false_iff_ne.2 (by omega)
        have he' : ¬ (e1 : Int) = 0 := by omega
        rw [if_neg (by intro h; exact he h.1)] at hps
        have HE := Lib.hid he
        clear he
        go_upto_region 5 with (first | (go_at_call 45; refine NX.out.mono ?_; clear NX; rintro e w1 ⟨rfl, G1, B1⟩; obtain ⟨c0, c1, c2, c3, c4, c5, c6⟩ := cells7 G1.row) | (go_at_call 58; refine (SM.out _).mono ?_; rintro e w' ⟨rfl, rfl⟩) | (go_at_call 53; refine (AL.out _).mono ?_; rintro e w' ⟨rfl, rfl⟩))
        have G5 := Lib.hid G1
        have BB : Hid (Below q w w1) := HB.out.trans B1
        clear c0 c1 c2 c3 c4 c5 c6 G1 B1
        have O5 : Hid (Own (q + 1) tv' TT.length (bx TT) w1) := G5.out.own
        have S1 := Lib.hid (src_one_new w1 C)
        have hTT := HLn.out
        have c4 := (cells7 G5.out.row).2.2.2.2.1
        go_wp2_with (refine wpList_append_bytes (o := ⟨some 31, _, _, _, _, _⟩) rfl _ _ 29 rfl rfl rfl (O5.out.alloc _) S1.out (by omega) ?_; intro v2 w2 ho2 hg2; obtain ⟨g2, p2, hv2, -⟩ := (OwnL.snoc ho2).slice (by simp); have el2 : (TT ++ [C]).length = TT.length + 1 := (by simp); rw [el2] at hv2; subst hv2; clear el2; have TX := G5.out.text (OwnL.snoc ho2) ((GrownV.alloc _ _ _).trans hg2); have f2 := TX.2.2.1; have cc2 := TX.2.2.2)
        go_roundw
        case rel => exact ⟨i + 1, _, by omega, by rw [Int.natCast_add]; rfl, by rw [hps.out, hpt.out]; exact TX.1, BB.out.trans TX.2.1⟩
        case measure => simp only [intOf]; omega
    · have hik' : ¬ (i : Int) < (k : Int) := by omega
      have ei : i = k := by omega
      subst ei
      have hl := ptx_len f n p i
      have hlen : (T ++ ptx f n p i).length ≤ 1300 := by rw [List.length_append]; omega
      obtain ⟨TT, hTT⟩ : ∃ TT, T ++ ptx f n p i = TT := ⟨_, rfl⟩
      obtain ⟨X, hX⟩ : ∃ X, pst f n p i = X := ⟨_, rfl⟩
      rw [hTT, hX] at HG
      rw [hTT] at hlen
      have HTT := Lib.hid hTT
      have HX := Lib.hid hX
      clear hTT hX
      obtain ⟨p1, e1⟩ := X
      dsimp only at HG
      have O5 : Hid (Own (q + 1) tv' TT.length (bx TT) wr) := HG.out.own
      have s1 := src_str (fun _ => 46#8) 1 wr
      have e0 : strOf (fun _ => 46#8) 1 = ⟨#[46]⟩ := rfl
      rw [e0] at s1
      have S1 := Lib.hid s1
      have c4 := (cells7 HG.out.row).2.2.2.2.1
      clear s1 e0 hl
      go_upto_region 8 with (refine wpList_append_bytes (o := ⟨some 40, _, _, _, _, _⟩) rfl _ _ 9 rfl rfl rfl O5.out S1.out (by omega) ?_; intro v2 w2 ho2 hg2; obtain ⟨g2, p2, hv2, -⟩ := (OwnL.snoc ho2).slice (by simp); have el2 : (TT ++ [46#8]).length = TT.length + 1 := (by simp); rw [el2] at hv2; subst hv2; clear el2; have TX := HG.out.text (OwnL.snoc ho2) hg2; have f2 := TX.2.2.1; have cc2 := TX.2.2.2)
      have GX := Lib.hid TX.1
      have BX := Lib.hid (HB.out.trans TX.2.1)
      obtain ⟨c0, c1, c2, c3, c4', c5, c6⟩ := cells7 GX.out.row
      have fz : ∀ j, (w2.setCell ⟨q, 4, none⟩ (.slice (some ⟨g2, 0, none⟩) (TT.length + 1) p2)).frozen? ⟨q, j, none⟩ = false := fun j => frozen_of_row _ _ _ _ _ GX.out.row
      clear TX f2 cc2 c4 ho2 hg2
      generalize w2.setCell _ _ = w3 at *
      have hTl : (TT ++ [46#8]).length = TT.length + 1 := by simp
      have HTl := Lib.hid hTl
      clear hTl
      by_cases he : e1 = 0
      · subst he
        by_cases hb : 254 < TT.length + 1
        · have hb' : (255 : Int) < (TT.length : Int) + 1 + 1 := by omega
          have S6 := rowSet_cell w3 q 6 _ _ (.int .i64 14) GX.out.row
          have hs := GX.out.set (p' := p1) (l' := l) (d' := d) (thr' := thr) (e' := 14) S6
          have HS := Lib.hid hs
          have HV : Hid (254 < (TT ++ [46#8]).length) := by rw [HTl.out]; exact hb
          clear S6 hs hb
          go_wp2_with fail
          go_end0
          exact ⟨⟨_, rfl⟩, _, TT ++ [46#8], by rw [HX.out, if_pos ⟨rfl, HV.out⟩]; exact HS.out.1, by rw [← HTT.out]; simp only [List.append_assoc], BX.out.trans HS.out.2⟩
        · have hb' : ¬ (255 : Int) < (TT.length : Int) + 1 + 1 := by omega
          have HV : Hid (¬ 254 < (TT ++ [46#8]).length) := by rw [HTl.out]; exact hb
          clear hb
          go_wp2_with fail
          go_end0
          exact ⟨⟨_, rfl⟩, _, TT ++ [46#8], by rw [HX.out, if_neg (fun h => HV.out h.2)]; exact GX.out, by rw [← HTT.out]; simp only [List.append_assoc], BX.out⟩
      · have hne : ((e1 : Int) == 0) = false := beq_eq_false_iff_ne.2 (by omega)
        have HE := Lib.hid he
        clear he
        go_wp2_with fail
        go_end0
        exact ⟨⟨_, rfl⟩, _, TT ++ [46#8], by rw [HX.out, if_neg (fun h => HE.out h.1)]; exact GX.out, by rw [← HTT.out]; simp only [List.append_assoc], BX.out⟩
end Go.Proofs.YtddpfbeclmgndaaDoor
