/-
  THE DOCUMENT's Get OF LONG HEADERS WITH NO VERSION.
-/
import Derived.Test.YtcgbhcmgddgheaaDoorRdZa
namespace Go.Proofs.YtcgbhcmgddgheaaDoor
open Go Go.RowKit Go.BigFrame
set_option linter.unusedSimpArgs false
set_option linter.unusedVariables false
set_option maxRecDepth 100000
set_option maxHeartbeats 32000000 in
theorem docGet_v_lo (f : Nat → BitVec 8) (len : Nat) (own : Int) (w : World) (hm : len ≤ 9223372036854775807) (ho : 0 ≤ own ∧ own ≤ 20) (hl1 : 5 ≤ len) (hF : 128 ≤ (f 0).toNat) (hF9 : (f 0).toNat < 192) (hV0 : numG (fun i => f (1 + i)) 4 = 0) (hn1h : Hid (nmR (len - 5) (f 5).toNat = 0)) (hn2h : Hid (nmR (len - (5 + 1 + (f 5).toNat)) (f (5 + 1 + (f 5).toNat)).toNat = 0)) :
    Calls Tryd.prog 36 #[.string (strOf f len), .int .i64 own] w (GotPost (getP f len own) w) := by
  have hs := strOf_size f len
  have hl0 : len ≠ 0 := by omega
  have he := str_full (f := f) hl0
  have hx : ∀ w : World, _ := run_at_str f len 0 (by omega)
  rw [show ((0 : Nat) : Int) = 0 from rfl] at hx
  have hF2 := (f 0).isLt
  have hw : wrap64 (n8 (f 0)) = ((f 0).toNat : Int) := by rw [n8_nat]; unfold wrap64; omega
  have hFj : ¬ ((f 0).toNat : Int) < 128 := by omega
  obtain ⟨o0, o1⟩ := ho
  have k15 : ∀ w : World, _ := run_cut_str f 1 5 len (by omega) (by omega)
  rw [show 5 - 1 = 4 from rfl, show ((1 : Nat) : Int) = 1 from rfl, show ((5 : Nat) : Int) = 5 from rfl] at k15
  have NB := Lib.hid (fun (w' : World) => refNumber_any (fun i => f (1 + i)) 4 (by omega) w')
  have h5i : ¬ (len : Int) < 5 := by omega
  have h5j : 5 ≤ (len : Int) := by omega
  have k5 : ∀ w : World, _ := run_tail_str f 5 len (by omega)
  rw [show ((5 : Nat) : Int) = 5 from rfl] at k5
  obtain ⟨g, hg⟩ : ∃ g, getP f len own = g := ⟨_, rfl⟩
  rw [hg]
  rw [getP_long ⟨o0, o1⟩ hl0 (by omega) (.inr ⟨hl1, hV0⟩)] at hg
  have HG := Lib.hid hg
  have N1 := Lib.hid (fun (w' : World) => refName_any (fun i => f (5 + i)) (len - 5) (by omega) w')
  have HV := Lib.hid hV0
  rw [hV0, show ((0 : Nat) : Int) = 0 from rfl] at NB
  obtain ⟨F, hFF⟩ : ∃ F, (f 0).toNat = F := ⟨_, rfl⟩
  have HF := Lib.hid hFF
  rw [hFF] at hw hFj hF hF2 hF9
  have hFi : (F : Int) < 192 := by omega
  have hq : (F : Int).tdiv 16 = ((F / 16 : Nat) : Int) := by rw [Int.tdiv_eq_ediv_of_nonneg (by omega)]; omega
  have hr : ((F / 16 : Nat) : Int).tmod 4 = ((F / 16 % 4 : Nat) : Int) := by rw [Int.tmod_eq_emod_of_nonneg (by omega)]; omega
  obtain ⟨Q, hQ⟩ : ∃ Q, F / 16 = Q := ⟨_, rfl⟩
  obtain ⟨K, hK⟩ : ∃ K, Q % 4 = K := ⟨_, rfl⟩
  rw [hQ] at hq hr
  rw [hK] at hr
  have hQ9 : Q ≤ 15 := by omega
  have hK9 : K < 4 := by omega
  generalize strOf (fun i => f (1 + i)) 4 = t15 at *
  generalize strOf (fun i => f (5 + i)) (len - 5) = t5 at *
  generalize strOf f len = s at *
  clear hg hFF hQ hK hF hF2 hF9 hV0
  have q0 : ((w.alloc (.cells (hdC 0 0 ⟨#[]⟩ ⟨#[]⟩ ⟨#[]⟩ 0 0 0 false (.slice none 0 0)) 63)).alloc (.cells (hdC 0 0 ⟨#[]⟩ ⟨#[]⟩ ⟨#[]⟩ 0 0 0 false (.slice none 0 0)) 63)).heap[w.heap.size]? = some (.cells (hdC 0 0 ⟨#[]⟩ ⟨#[]⟩ ⟨#[]⟩ 0 0 0 false (.slice none 0 0)) 63 (0, 0)) := rows_alloc w [.cells (hdC 0 0 ⟨#[]⟩ ⟨#[]⟩ ⟨#[]⟩ 0 0 0 false (.slice none 0 0)) 63, .cells (hdC 0 0 ⟨#[]⟩ ⟨#[]⟩ ⟨#[]⟩ 0 0 0 false (.slice none 0 0)) 63] 0
  have q1 : ((w.alloc (.cells (hdC 0 0 ⟨#[]⟩ ⟨#[]⟩ ⟨#[]⟩ 0 0 0 false (.slice none 0 0)) 63)).alloc (.cells (hdC 0 0 ⟨#[]⟩ ⟨#[]⟩ ⟨#[]⟩ 0 0 0 false (.slice none 0 0)) 63)).heap[w.heap.size + 1]? = some (.cells (hdC 0 0 ⟨#[]⟩ ⟨#[]⟩ ⟨#[]⟩ 0 0 0 false (.slice none 0 0)) 63 (0, 0)) := rows_alloc w [.cells (hdC 0 0 ⟨#[]⟩ ⟨#[]⟩ ⟨#[]⟩ 0 0 0 false (.slice none 0 0)) 63, .cells (hdC 0 0 ⟨#[]⟩ ⟨#[]⟩ ⟨#[]⟩ 0 0 0 false (.slice none 0 0)) 63] 1
  have bel : Below w.heap.size w ((w.alloc (.cells (hdC 0 0 ⟨#[]⟩ ⟨#[]⟩ ⟨#[]⟩ 0 0 0 false (.slice none 0 0)) 63)).alloc (.cells (hdC 0 0 ⟨#[]⟩ ⟨#[]⟩ ⟨#[]⟩ 0 0 0 false (.slice none 0 0)) 63)) := ((Below.refl w.heap.size w).alloc (Nat.le_refl _) _).alloc (by simp) _
  have hs1 : (w.alloc (.cells (hdC 0 0 ⟨#[]⟩ ⟨#[]⟩ ⟨#[]⟩ 0 0 0 false (.slice none 0 0)) 63)).heap.size = w.heap.size + 1 := by simp
  have Q0 := Lib.hid q0
  have Q1 := Lib.hid q1
  have BEL := Lib.hid bel
  clear q0 q1 bel
  go_enter Tryd.func36, Tryd.ntmps36
  go_upto_region 2 with (first
    | (refine wpList_alloc_row (o := ⟨some 4, .alloc 63, _, _, _, _⟩) rfl 63 rfl _ refhd_zero ?_)
    | (refine wpList_alloc_row (o := ⟨some 8, .alloc 63, _, _, _, _⟩) rfl 63 rfl _ refhd_zero ?_
       simp only [hs1, Act.put, List.setIfInBounds_toArray, List.set_cons_succ, List.set_cons_zero])
    | (refine wpList_store_row (op := ⟨none, .store 63 _ _, _, _, _, _⟩) rfl 63 _ _ rfl (w.heap.size + 1) 63 _ (hdC 0 0 ⟨#[]⟩ ⟨#[]⟩ ⟨#[]⟩ 0 0 0 false (.slice none 0 0)) rfl rfl Q1.out rfl (by kernel_rfl) (hdC_one _ _ _ _ _ _ _ _ _) ?_
       intro w1 rs
       have D : Hid (DSt w w.heap.size w1) := Lib.hid ⟨rs.keep (by omega) Q0.out, rs.row, BEL.out.trans (rs.below _ (Nat.le_succ _))⟩
       clear rs)
    | fail)
  generalize hn : w.heap.size = n at *
  have HNS := Lib.hid hn
  clear hn Q0 Q1 BEL hs1
  go_wp2_with fail
  with_reducible refine (NB.out _).mono ?_
  rintro x w' ⟨rfl, rfl⟩
  go_upto_region 18 with (fail)
  go_wp2_with fail
  with_reducible refine (NB.out _).mono ?_
  rintro x w' ⟨rfl, rfl⟩
  go_upto_region 19 with (first
    | (refine wpList_alloc_row (o := ⟨some 11, .alloc 63, _, _, _, _⟩) rfl 63 rfl _ refhd_zero ?_)
    | (refine wpList_store_new (o := ⟨none, .store 63 _ _, _, _, _, _⟩) rfl 63 _ _ rfl (hdC 0 0 ⟨#[]⟩ ⟨#[]⟩ ⟨#[]⟩ 0 0 0 false (.slice none 0 0)) (hdC (K : Int) 0 ⟨#[]⟩ ⟨#[]⟩ ⟨#[]⟩ 0 0 0 false (.slice none 0 0)) _ rfl rfl rfl (by kernel_rfl) rfl (hdC_one _ _ _ _ _ _ _ _ _) ?_)
    | fail)
  have hst := HSt.made (k := (K : Int)) (v := 0) D.out rfl
  simp only [Act.put, List.setIfInBounds_toArray, List.set_cons_succ, List.set_cons_zero]
  generalize World.alloc _ _ = w2 at *
  generalize w1.heap.size = H at *
  have HS := Lib.hid hst
  clear hst NB k15 D
  go_wp2_with fail
  refine (N1.out w2).mono ?_
  rintro x w3 ⟨rfl, hb3⟩
  have H3 := Lib.hid (HS.out.later hb3)
  have D := Lib.hid (HS.out.later hb3).d
  clear hb3 HS N1 k5
  have hn1 := hn1h.out
  rw [nmOut_ok hn1]
  have hp2l := (nm_ok hn1).2.2.2
  obtain ⟨p2, hp2⟩ : ∃ p2, 5 + 1 + (f 5).toNat = p2 := ⟨_, rfl⟩
  obtain ⟨X1, hX1⟩ : ∃ X1, strOf (fun i => f (5 + 1 + i)) (f 5).toNat = X1 := ⟨_, rfl⟩
  have N2 := Lib.hid (fun (w' : World) => refName_any (fun i => f (p2 + i)) (len - p2) (by omega) w')
  rw [hp2] at hp2l ⊢
  rw [hX1]
  generalize hT6 : strOf (fun i => f (p2 + i)) (len - p2) = t6 at N2 ⊢
  have HX := Lib.hid (And.intro hp2 hX1)
  clear hp2 hX1 hT6
  go_wp2_with fail
  refine (N2.out w3).mono ?_
  rintro x w4 ⟨rfl, hb4⟩
  have H4 := Lib.hid (H3.out.later hb4)
  have D := Lib.hid (H3.out.later hb4).d
  clear hb4 H3 N2
  have hn2 : nmR (len - p2) (f p2).toNat = 0 := by rw [← HX.out.1]; exact hn2h.out
  rw [nmOut_ok hn2]
  have hg := HG.out
  rw [long_ok hl1 hn1 (by rw [HX.out.1]; exact hn2), HX.out.1, HX.out.2, HV.out] at hg
  have hp3l := (nm_ok hn2).2.2.2
  generalize hp3 : p2 + 1 + (f p2).toNat = p3 at hg hp3l ⊢
  generalize hX2 : strOf (fun i => f (p2 + 1 + i)) (f p2).toNat = X2 at hg ⊢
  generalize hT7 : strOf (fun i => f (p3 + i)) (len - p3) = t7 at ⊢
  have HG2 := Lib.hid hg
  have HT7 := Lib.hid hT7
  clear hg HG hp3 hX2 HX hn1 hn2 HV HF hT7 hp2l
  have h25 := H4.out.put 2 (.string X1) rfl
  have h26 := h25.put 3 (.string X2) rfl
  have h27 := h26.put 0 (.int .i64 5) rfl
  have fr2 := H4.out.free 2
  have fr3 := h25.free 3
  have fr0 := h26.free 0
  obtain ⟨c0, c1, c2, c3, c4, c5⟩ := H4.out.cells
  obtain ⟨d0, d1, d2, d3, d4, d5⟩ := h25.cells
  obtain ⟨e0, e1, e2, e3, e4, e5⟩ := h26.cells
  have H5 := Lib.hid h27
  clear h25 h26 h27
  go_upto_region 28 with (fail)
  generalize ((w4.setCell ⟨H, 2, none⟩ (.string X1)).setCell ⟨H, 3, none⟩ (.string X2)).setCell ⟨H, 0, none⟩ (.int .i64 5) = w5 at *
  have HX := H5
  clear H5 H4 fr2 fr3 fr0 c0 c1 c2 c3 c4 c5 d0 d1 d2 d3 d4 d5 e0 e1 e2 e3 e4 e5 D
  have hz7 : t7.size = len - p3 := by rw [← HT7.out]; exact strOf_size _ _
  obtain ⟨L3, hL3⟩ : ∃ L3, len - p3 = L3 := ⟨_, rfl⟩
  have hL3i : L3 ≤ 9223372036854775807 := by omega
  rw [hL3] at hz7
  have hr4 : (L3 : Int).tmod 4 = ((L3 % 4 : Nat) : Int) := by rw [Int.tmod_eq_emod_of_nonneg (by omega)]; omega
  obtain ⟨M4, hM4⟩ : ∃ M, L3 % 4 = M := ⟨_, rfl⟩
  rw [hM4] at hr4
  have hM9 : M4 < 4 := by omega
  by_cases hm4 : M4 = 0
  rotate_left
  · have hg := HG2.out
    rw [lk_v_bad (.inl (by rw [hL3, hM4]; exact hm4))] at hg
    subst hg
    have hmb : ((M4 : Int) == 0) = false := beq_eq_false_iff_ne.2 (by omega)
    clear HG2
    go_wp2_with (first
      | (refine wpList_load_row (o := ⟨some 124, .load 63 _, _, _, _, _⟩) rfl 63 _ rfl (n + 1) rfl _ _ (0, 0) _ HX.out.d.nn Tryd.underlying63 rfl (by kernel_rfl) ?_)
      | (refine wpList_store_row (op := ⟨none, .store 63 _ _, _, _, _, _⟩) rfl 63 _ _ rfl n 63 _ (hdC 0 0 ⟨#[]⟩ ⟨#[]⟩ ⟨#[]⟩ 0 0 0 false (.slice none 0 0)) rfl rfl HX.out.d.rs rfl (by kernel_rfl) (hdC_one _ _ _ _ _ _ _ _ _) ?_
         intro w9 rs
         have RS9 := Lib.hid rs
         clear rs)
      | fail)
    refine bodyPost_ret (results_hd rfl _ _ n 63 (hdC 0 0 ⟨#[]⟩ ⟨#[]⟩ ⟨#[]⟩ 0 0 0 false (.slice none 0 0)) (0, 0) _ rfl RS9.out.row Tryd.underlying63 ⟨_, rfl⟩ (by kernel_rfl)) rfl ?_
    exact GotPost.no_ 2 w _ n HNS.out (HX.out.d.bl.trans (RS9.out.below n (Nat.le_refl _))) _ rfl
  have hmb : ((M4 : Int) == 0) = true := beq_iff_eq.2 (by omega)
  by_cases hl30 : L3 = 0
  · have hg := HG2.out
    rw [lk_v_bad (.inr (.inl (by rw [hL3]; exact hl30)))] at hg
    subst hg
    have hlb : ((L3 : Int) == 0) = true := beq_iff_eq.2 (by omega)
    clear HG2
    go_wp2_with (first
      | (refine wpList_load_row (o := ⟨some 124, .load 63 _, _, _, _, _⟩) rfl 63 _ rfl (n + 1) rfl _ _ (0, 0) _ HX.out.d.nn Tryd.underlying63 rfl (by kernel_rfl) ?_)
      | (refine wpList_store_row (op := ⟨none, .store 63 _ _, _, _, _, _⟩) rfl 63 _ _ rfl n 63 _ (hdC 0 0 ⟨#[]⟩ ⟨#[]⟩ ⟨#[]⟩ 0 0 0 false (.slice none 0 0)) rfl rfl HX.out.d.rs rfl (by kernel_rfl) (hdC_one _ _ _ _ _ _ _ _ _) ?_
         intro w9 rs
         have RS9 := Lib.hid rs
         clear rs)
      | fail)
    refine bodyPost_ret (results_hd rfl _ _ n 63 (hdC 0 0 ⟨#[]⟩ ⟨#[]⟩ ⟨#[]⟩ 0 0 0 false (.slice none 0 0)) (0, 0) _ rfl RS9.out.row Tryd.underlying63 ⟨_, rfl⟩ (by kernel_rfl)) rfl ?_
    exact GotPost.no_ 2 w _ n HNS.out (HX.out.d.bl.trans (RS9.out.below n (Nat.le_refl _))) _ rfl
  have hlb : ((L3 : Int) == 0) = false := beq_eq_false_iff_ne.2 (by omega)
  by_cases hl64 : 64 < L3
  · have hg := HG2.out
    rw [lk_v_bad (.inr (.inr (by rw [hL3]; exact hl64)))] at hg
    subst hg
    have hli : (64 : Int) < (L3 : Int) := by omega
    clear HG2
    go_wp2_with (first
      | (refine wpList_load_row (o := ⟨some 124, .load 63 _, _, _, _, _⟩) rfl 63 _ rfl (n + 1) rfl _ _ (0, 0) _ HX.out.d.nn Tryd.underlying63 rfl (by kernel_rfl) ?_)
      | (refine wpList_store_row (op := ⟨none, .store 63 _ _, _, _, _, _⟩) rfl 63 _ _ rfl n 63 _ (hdC 0 0 ⟨#[]⟩ ⟨#[]⟩ ⟨#[]⟩ 0 0 0 false (.slice none 0 0)) rfl rfl HX.out.d.rs rfl (by kernel_rfl) (hdC_one _ _ _ _ _ _ _ _ _) ?_
         intro w9 rs
         have RS9 := Lib.hid rs
         clear rs)
      | fail)
    refine bodyPost_ret (results_hd rfl _ _ n 63 (hdC 0 0 ⟨#[]⟩ ⟨#[]⟩ ⟨#[]⟩ 0 0 0 false (.slice none 0 0)) (0, 0) _ rfl RS9.out.row Tryd.underlying63 ⟨_, rfl⟩ (by kernel_rfl)) rfl ?_
    exact GotPost.no_ 2 w _ n HNS.out (HX.out.d.bl.trans (RS9.out.below n (Nat.le_refl _))) _ rfl
  have hg := HG2.out
  rw [lk_v_ok (by rw [hL3, hM4]; omega), hL3] at hg
  have HG3 := Lib.hid hg
  have hli : ¬ (64 : Int) < (L3 : Int) := by omega
  clear HG2 hg
  go_upto_region 30 with (fail)
  clear hmb hlb hli hr4 hz7
  obtain ⟨c, hc⟩ : ∃ c, L3 = 4 * c := ⟨L3 / 4, by omega⟩
  have hc16 : c ≤ 16 := by omega
  have hc4 : L3 / 4 = c := by omega
  obtain ⟨B0, hB0⟩ : ∃ B, w5.heap.size = B := ⟨_, rfl⟩
  have hHB : H < B0 := by have := lt_row HX.out.hd; omega
  have hBn : w.heap.size ≤ B0 := by have := HX.out.hh; have := HNS.out; omega
  have ON := Lib.hid (OwnI.nil B0 w5 (by omega))
  go_loopw [13] (fun s13 wr => ∃ (j : Nat) (L : Value), j ≤ c ∧ s13 = .string (strOf (fun i => f (p3 + 4 * j + i)) (L3 - 4 * j)) ∧ OwnI B0 L (vsG f p3 j) wr ∧ HSt w n H 5 0 X1 X2 ⟨#[]⟩ 0 L wr) (fun s13 _ => szOf s13)
  case atStart => exact ⟨0, .slice none 0 0, by omega, by rw [← HT7.out, hL3]; rfl, ON.out, HX.out⟩
  case round =>
    obtain ⟨j, L, hj, rfl, how, hxr⟩ := hrel
    have OWR := Lib.hid (show OwnI B0 L (vsG f p3 j) wr.drew from how.kept (Nat.le_refl _) (fun _ _ _ => rfl))
    have HXD := Lib.hid (show HSt w n H 5 0 X1 X2 ⟨#[]⟩ 0 L wr.drew from ⟨⟨hxr.d.rs, hxr.d.nn, hxr.d.bl.drew⟩, hxr.hh, hxr.hd⟩)
    have HXE := Lib.hid hxr
    have OWE := Lib.hid how
    clear how hxr ON HX
    obtain ⟨aL, cL, hL⟩ := OWE.out.slice
    rw [vsG_len] at hL
    subst hL
    by_cases hjc : j < c
    · have he2 := str_full (f := fun i => f (p3 + 4 * j + i)) (n := L3 - 4 * j) (by omega)
      have kh : ∀ w : World, _ := run_head_str (fun i => f (p3 + 4 * j + i)) (L3 - 4 * j) 4 (by omega)
      have kt : ∀ w : World, _ := run_tail_str (fun i => f (p3 + 4 * j + i)) 4 (L3 - 4 * j) (by omega)
      rw [show ((4 : Nat) : Int) = 4 from rfl] at kh kt
      have hs13 : szOf (.string (strOf (fun i => f (p3 + 4 * j + i)) (L3 - 4 * j))) = L3 - 4 * j := strOf_size _ _
      have nb := fun (w' : World) => refNumber_any (fun i => f (p3 + 4 * j + i)) 4 (by omega) w'
      obtain ⟨x4, hx4⟩ : ∃ x, numG (fun i => f (p3 + 4 * j + i)) 4 = x := ⟨_, rfl⟩
      rw [hx4] at nb
      have HX4 := Lib.hid hx4
      have hte : (fun i => (fun i => f (p3 + 4 * j + i)) (4 + i)) = (fun i => f (p3 + 4 * (j + 1) + i)) := by funext i; show f (p3 + 4 * j + (4 + i)) = _; congr 1; omega
      rw [hte, show L3 - 4 * j - 4 = L3 - 4 * (j + 1) by omega] at kt
      generalize strOf (fun i => f (p3 + 4 * j + i)) 4 = t4 at *
      generalize strOf (fun i => f (p3 + 4 * j + i)) (L3 - 4 * j) = tj at *
      have NB4 := Lib.hid nb
      have KT := Lib.hid kt
      clear nb hx4 hte kt
      go_upto_region 31 with (fail)
      have HS : Hid ((fun _ : World => True) wr.drew) := Lib.hid trivial
      refine wp_region_held_drew (S := fun _ => True) mixedOrders HS.out (fun hHeld => ?_)
      clear hHeld
      refine wpAnyH_take (i := 0) (oi := ⟨some 127, _, _, _, _, _⟩) (v := .pointer (some ⟨H, 9, none⟩)) rfl (by kernel_rfl) (by kernel_rfl) (by kernel_rfl) (fun _ _ _ h => h) (Or.inl ⟨by rfl, fun w' hSw => ?_⟩) HS.out ?_
      · go_simp
      try simp only [Act.put, List.setIfInBounds_toArray, List.set_cons_succ, List.set_cons_zero]
      refine wpAnyH_take (i := 2) (oi := ⟨some 129, _, _, _, _, _⟩) (v := .string tj) rfl (by kernel_rfl) (by kernel_rfl) (by kernel_rfl) (fun _ _ _ h => h) (Or.inl ⟨by rfl, fun w' hSw => ?_⟩) HS.out ?_
      · go_simp
      try simp only [Act.put, List.setIfInBounds_toArray, List.set_cons_succ, List.set_cons_zero]
      refine wpAnyH_take (i := 3) (oi := ⟨some 130, _, _, _, _, _⟩) (v := .string t4) rfl (by kernel_rfl) (by kernel_rfl) (by kernel_rfl) (fun _ _ _ h => h) (Or.inl ⟨by rfl, fun w' hSw => ?_⟩) HS.out ?_
      · go_simp
      try simp only [Act.put, List.setIfInBounds_toArray, List.set_cons_succ, List.set_cons_zero]
      refine wpAnyH_ready (rs := [1, 4]) (by kernel_rfl) (by simp) ?_
      refine AllReadyH.cons (i := 1) rfl (fun K hK => ?_) (AllReadyH.cons (i := 4) rfl (fun K hK => ?_) AllReadyH.nil)
      · rw [if_pos (by rfl)]
        have c9 := (show World.cell? wr.drew ⟨H, 9, none⟩ = some (.slice aL j cL) from HXD.out.list)
        go_simp
        clear c9
        refine hK.out _ _ trivial (fun _ => ?_)
        clear hK K
        try simp only [Act.put, List.setIfInBounds_toArray, List.set_cons_succ, List.set_cons_zero]
        refine wpAnyH_ready (rs := [4]) (by kernel_rfl) (by simp) ?_
        refine AllReadyH.cons (i := 4) rfl (fun K hK => ?_) AllReadyH.nil
        rw [if_pos (by rfl)]
        go_simp
        go_at_call 64
        refine (NB4.out _).mono ?_
        rintro x w' ⟨rfl, rfl⟩
        dsimp only
        refine hK.out _ _ trivial (fun _ => ?_)
        clear hK K
        try simp only [Act.put, List.setIfInBounds_toArray, List.set_cons_succ, List.set_cons_zero]
        refine wpAnyH_ready (rs := [5]) (by kernel_rfl) (by simp) ?_
        refine AllReadyH.cons (i := 5) rfl (fun K hK => ?_) AllReadyH.nil
        rw [if_pos (by rfl)]
        go_simp
        have al0 := (Below.refl wr.heap.size wr).alloc (Nat.le_refl _) (.cells #[.int .i64 (x4 : Int)] 3)
        have al : Below wr.heap.size wr.drew (wr.alloc (.cells #[.int .i64 (x4 : Int)] 3)).drew := ⟨al0.os, al0.tape, al0.output, al0.size, al0.block⟩
        have src := src_int_drew wr (x4 : Int)
        clear al0
        generalize (World.alloc _ _).drew = w10 at *
        have SRC := Lib.hid src
        have O10 := Lib.hid (OWR.out.later' al)
        have H10 := Lib.hid (HXD.out.later al)
        clear al src
        refine hK.out _ _ trivial (fun _ => ?_)
        clear hK K
        try simp only [Act.put, List.setIfInBounds_toArray, List.set_cons_succ, List.set_cons_zero]
        refine wpAnyH_ready (rs := [6]) (by kernel_rfl) (by simp) ?_
        refine AllReadyH.cons (i := 6) rfl (fun K hK => ?_) AllReadyH.nil
        refine step_append_ints (o := ⟨some 133, _, _, _, _, _⟩) rfl _ _ rfl (B := B0) (G := vsG f p3 j) (H := [(x4 : Int)]) rfl rfl O10.out SRC.out (by rw [vsG_len]; simp; omega) ?_
        intro v11 w11 ho11 hg11
        have h11 := H10.out.grew hHB O10.out hg11
        obtain ⟨a11, c11, hv11⟩ := ho11.slice
        rw [List.length_append, vsG_len, show [(x4 : Int)].length = 1 from rfl] at hv11
        subst hv11
        have FZ : w11.frozen? ⟨H, 9, none⟩ = false := h11.free 9
        have c9 := h11.list
        have hne : (Value.slice a11 (j + 1) c11).ownBlock ≠ some H := fun e => by have := (ho11.lt e).1; omega
        have st := rowSet_cell w11 H 9 _ _ (.slice a11 (j + 1) c11) h11.hd
        have H12 := Lib.hid (h11.put 9 (.slice a11 (j + 1) c11) rfl)
        have O12 := Lib.hid (ho11.kept (w' := w11.setCell ⟨H, 9, none⟩ (.slice a11 (j + 1) c11)) (Nat.le_of_eq st.size.symm) (fun g hg hl => st.other g (fun e => hne (e ▸ hg))))
        clear h11 ho11 hg11 st hne
        refine hK.out _ _ trivial (fun _ => ?_)
        clear hK K
        try simp only [Act.put, List.setIfInBounds_toArray, List.set_cons_succ, List.set_cons_zero]
        refine wpAnyH_take (i := 7) (oi := ⟨some 134, _, _, _, _, _⟩) (v := .pointer (some ⟨H, 9, none⟩)) rfl (by kernel_rfl) (by kernel_rfl) (by kernel_rfl) (fun _ _ _ h => h) (Or.inl ⟨by rfl, fun w' hSw => ?_⟩) HS.out ?_
        · go_simp
        try simp only [Act.put, List.setIfInBounds_toArray, List.set_cons_succ, List.set_cons_zero]
        refine wpAnyH_ready (rs := [8]) (by kernel_rfl) (by simp) ?_
        refine AllReadyH.cons (i := 8) rfl (fun K hK => ?_) AllReadyH.nil
        rw [if_pos (by rfl)]
        go_simp
        clear FZ c9
        generalize World.setCell _ _ _ = w12 at *
        refine hK.out _ _ trivial (fun _ => ?_)
        clear hK K
        try simp only [Act.put, List.setIfInBounds_toArray, List.set_cons_succ, List.set_cons_zero]
        refine wpAnyH_done (by kernel_rfl) ?_ _
        have k44 := KT.out
        go_wp2_with fail
        go_roundw
        case rel => exact ⟨j + 1, by omega, (by first | rfl | trivial), .slice a11 (j + 1) c11, (by rw [vsG_succ, HX4.out]; exact O12.out), H12.out⟩
        case measure =>
          first | (rw [hs13]; show (strOf _ _).size < _; rw [strOf_size]; omega) | (show (strOf _ _).size < (strOf _ _).size; rw [strOf_size, strOf_size]; omega) | (simp only [szOf, strOf_size] at *; omega) | skip
      · rw [if_pos (by rfl)]
        go_simp
        go_at_call 64
        refine (NB4.out _).mono ?_
        rintro x w' ⟨rfl, rfl⟩
        dsimp only
        refine hK.out _ _ trivial (fun _ => ?_)
        clear hK K
        try simp only [Act.put, List.setIfInBounds_toArray, List.set_cons_succ, List.set_cons_zero]
        refine wpAnyH_ready (rs := [1, 5]) (by kernel_rfl) (by simp) ?_
        refine AllReadyH.cons (i := 1) rfl (fun K hK => ?_) (AllReadyH.cons (i := 5) rfl (fun K hK => ?_) AllReadyH.nil)
        · rw [if_pos (by rfl)]
          have c9 := (show World.cell? wr.drew ⟨H, 9, none⟩ = some (.slice aL j cL) from HXD.out.list)
          go_simp
          clear c9
          refine hK.out _ _ trivial (fun _ => ?_)
          clear hK K
          try simp only [Act.put, List.setIfInBounds_toArray, List.set_cons_succ, List.set_cons_zero]
          refine wpAnyH_ready (rs := [5]) (by kernel_rfl) (by simp) ?_
          refine AllReadyH.cons (i := 5) rfl (fun K hK => ?_) AllReadyH.nil
          rw [if_pos (by rfl)]
          go_simp
          have al0 := (Below.refl wr.heap.size wr).alloc (Nat.le_refl _) (.cells #[.int .i64 (x4 : Int)] 3)
          have al : Below wr.heap.size wr.drew (wr.alloc (.cells #[.int .i64 (x4 : Int)] 3)).drew := ⟨al0.os, al0.tape, al0.output, al0.size, al0.block⟩
          have src := src_int_drew wr (x4 : Int)
          clear al0
          generalize (World.alloc _ _).drew = w10 at *
          have SRC := Lib.hid src
          have O10 := Lib.hid (OWR.out.later' al)
          have H10 := Lib.hid (HXD.out.later al)
          clear al src
          refine hK.out _ _ trivial (fun _ => ?_)
          clear hK K
          try simp only [Act.put, List.setIfInBounds_toArray, List.set_cons_succ, List.set_cons_zero]
          refine wpAnyH_ready (rs := [6]) (by kernel_rfl) (by simp) ?_
          refine AllReadyH.cons (i := 6) rfl (fun K hK => ?_) AllReadyH.nil
          refine step_append_ints (o := ⟨some 133, _, _, _, _, _⟩) rfl _ _ rfl (B := B0) (G := vsG f p3 j) (H := [(x4 : Int)]) rfl rfl O10.out SRC.out (by rw [vsG_len]; simp; omega) ?_
          intro v11 w11 ho11 hg11
          have h11 := H10.out.grew hHB O10.out hg11
          obtain ⟨a11, c11, hv11⟩ := ho11.slice
          rw [List.length_append, vsG_len, show [(x4 : Int)].length = 1 from rfl] at hv11
          subst hv11
          have FZ : w11.frozen? ⟨H, 9, none⟩ = false := h11.free 9
          have c9 := h11.list
          have hne : (Value.slice a11 (j + 1) c11).ownBlock ≠ some H := fun e => by have := (ho11.lt e).1; omega
          have st := rowSet_cell w11 H 9 _ _ (.slice a11 (j + 1) c11) h11.hd
          have H12 := Lib.hid (h11.put 9 (.slice a11 (j + 1) c11) rfl)
          have O12 := Lib.hid (ho11.kept (w' := w11.setCell ⟨H, 9, none⟩ (.slice a11 (j + 1) c11)) (Nat.le_of_eq st.size.symm) (fun g hg hl => st.other g (fun e => hne (e ▸ hg))))
          clear h11 ho11 hg11 st hne
          refine hK.out _ _ trivial (fun _ => ?_)
          clear hK K
          try simp only [Act.put, List.setIfInBounds_toArray, List.set_cons_succ, List.set_cons_zero]
          refine wpAnyH_take (i := 7) (oi := ⟨some 134, _, _, _, _, _⟩) (v := .pointer (some ⟨H, 9, none⟩)) rfl (by kernel_rfl) (by kernel_rfl) (by kernel_rfl) (fun _ _ _ h => h) (Or.inl ⟨by rfl, fun w' hSw => ?_⟩) HS.out ?_
          · go_simp
          try simp only [Act.put, List.setIfInBounds_toArray, List.set_cons_succ, List.set_cons_zero]
          refine wpAnyH_ready (rs := [8]) (by kernel_rfl) (by simp) ?_
          refine AllReadyH.cons (i := 8) rfl (fun K hK => ?_) AllReadyH.nil
          rw [if_pos (by rfl)]
          go_simp
          clear FZ c9
          generalize World.setCell _ _ _ = w12 at *
          refine hK.out _ _ trivial (fun _ => ?_)
          clear hK K
          try simp only [Act.put, List.setIfInBounds_toArray, List.set_cons_succ, List.set_cons_zero]
          refine wpAnyH_done (by kernel_rfl) ?_ _
          have k44 := KT.out
          go_wp2_with fail
          go_roundw
          case rel => exact ⟨j + 1, by omega, (by first | rfl | trivial), .slice a11 (j + 1) c11, (by rw [vsG_succ, HX4.out]; exact O12.out), H12.out⟩
          case measure =>
            first | (rw [hs13]; show (strOf _ _).size < _; rw [strOf_size]; omega) | (show (strOf _ _).size < (strOf _ _).size; rw [strOf_size, strOf_size]; omega) | (simp only [szOf, strOf_size] at *; omega) | skip
        · rw [if_pos (by rfl)]
          go_simp
          have al0 := (Below.refl wr.heap.size wr).alloc (Nat.le_refl _) (.cells #[.int .i64 (x4 : Int)] 3)
          have al : Below wr.heap.size wr.drew (wr.alloc (.cells #[.int .i64 (x4 : Int)] 3)).drew := ⟨al0.os, al0.tape, al0.output, al0.size, al0.block⟩
          have src := src_int_drew wr (x4 : Int)
          clear al0
          generalize (World.alloc _ _).drew = w10 at *
          have SRC := Lib.hid src
          have O10 := Lib.hid (OWR.out.later' al)
          have H10 := Lib.hid (HXD.out.later al)
          clear al src
          refine hK.out _ _ trivial (fun _ => ?_)
          clear hK K
          try simp only [Act.put, List.setIfInBounds_toArray, List.set_cons_succ, List.set_cons_zero]
          refine wpAnyH_ready (rs := [1]) (by kernel_rfl) (by simp) ?_
          refine AllReadyH.cons (i := 1) rfl (fun K hK => ?_) AllReadyH.nil
          rw [if_pos (by rfl)]
          have c9 := (show World.cell? w10 ⟨H, 9, none⟩ = some (.slice aL j cL) from H10.out.list)
          go_simp
          clear c9
          refine hK.out _ _ trivial (fun _ => ?_)
          clear hK K
          try simp only [Act.put, List.setIfInBounds_toArray, List.set_cons_succ, List.set_cons_zero]
          refine wpAnyH_ready (rs := [6]) (by kernel_rfl) (by simp) ?_
          refine AllReadyH.cons (i := 6) rfl (fun K hK => ?_) AllReadyH.nil
          refine step_append_ints (o := ⟨some 133, _, _, _, _, _⟩) rfl _ _ rfl (B := B0) (G := vsG f p3 j) (H := [(x4 : Int)]) rfl rfl O10.out SRC.out (by rw [vsG_len]; simp; omega) ?_
          intro v11 w11 ho11 hg11
          have h11 := H10.out.grew hHB O10.out hg11
          obtain ⟨a11, c11, hv11⟩ := ho11.slice
          rw [List.length_append, vsG_len, show [(x4 : Int)].length = 1 from rfl] at hv11
          subst hv11
          have FZ : w11.frozen? ⟨H, 9, none⟩ = false := h11.free 9
          have c9 := h11.list
          have hne : (Value.slice a11 (j + 1) c11).ownBlock ≠ some H := fun e => by have := (ho11.lt e).1; omega
          have st := rowSet_cell w11 H 9 _ _ (.slice a11 (j + 1) c11) h11.hd
          have H12 := Lib.hid (h11.put 9 (.slice a11 (j + 1) c11) rfl)
          have O12 := Lib.hid (ho11.kept (w' := w11.setCell ⟨H, 9, none⟩ (.slice a11 (j + 1) c11)) (Nat.le_of_eq st.size.symm) (fun g hg hl => st.other g (fun e => hne (e ▸ hg))))
          clear h11 ho11 hg11 st hne
          refine hK.out _ _ trivial (fun _ => ?_)
          clear hK K
          try simp only [Act.put, List.setIfInBounds_toArray, List.set_cons_succ, List.set_cons_zero]
          refine wpAnyH_take (i := 7) (oi := ⟨some 134, _, _, _, _, _⟩) (v := .pointer (some ⟨H, 9, none⟩)) rfl (by kernel_rfl) (by kernel_rfl) (by kernel_rfl) (fun _ _ _ h => h) (Or.inl ⟨by rfl, fun w' hSw => ?_⟩) HS.out ?_
          · go_simp
          try simp only [Act.put, List.setIfInBounds_toArray, List.set_cons_succ, List.set_cons_zero]
          refine wpAnyH_ready (rs := [8]) (by kernel_rfl) (by simp) ?_
          refine AllReadyH.cons (i := 8) rfl (fun K hK => ?_) AllReadyH.nil
          rw [if_pos (by rfl)]
          go_simp
          clear FZ c9
          generalize World.setCell _ _ _ = w12 at *
          refine hK.out _ _ trivial (fun _ => ?_)
          clear hK K
          try simp only [Act.put, List.setIfInBounds_toArray, List.set_cons_succ, List.set_cons_zero]
          refine wpAnyH_done (by kernel_rfl) ?_ _
          have k44 := KT.out
          go_wp2_with fail
          go_roundw
          case rel => exact ⟨j + 1, by omega, (by first | rfl | trivial), .slice a11 (j + 1) c11, (by rw [vsG_succ, HX4.out]; exact O12.out), H12.out⟩
          case measure =>
            first | (rw [hs13]; show (strOf _ _).size < _; rw [strOf_size]; omega) | (show (strOf _ _).size < (strOf _ _).size; rw [strOf_size, strOf_size]; omega) | (simp only [szOf, strOf_size] at *; omega) | skip
    · obtain rfl : j = c := by omega
      have hz : L3 - 4 * j = 0 := by omega
      rw [hz, str_empty]
      have hG := HG3.out
      rw [hc4] at hG
      have HG4 := Lib.hid hG
      obtain ⟨hlen, hin, hbl⟩ := OWE.out.listIn
      have HIN := Lib.hid hin
      have HBL := Lib.hid hbl
      clear hG hin hbl hlen hc4 hz
      go_wp2_with (first
        | (refine wpList_load_row (o := ⟨some 137, .load 63 _, _, _, _, _⟩) rfl 63 _ rfl H rfl _ _ (0, 0) _ HXE.out.hd Tryd.underlying63 rfl (by kernel_rfl) ?_)
        | (refine wpList_store_row (op := ⟨none, .store 63 _ _, _, _, _, _⟩) rfl 63 _ _ rfl n 63 _ (hdC 5 0 X1 X2 ⟨#[]⟩ 0 0 0 false (.slice aL j cL)) rfl rfl HXE.out.d.rs rfl (by kernel_rfl) (hdC_one _ _ _ _ _ _ _ _ _) ?_
           intro w9 rs
           have RS9 := Lib.hid rs
           clear rs)
        | fail)
      refine bodyPost_ret (results_hd rfl _ _ n 63 (hdC 5 0 X1 X2 ⟨#[]⟩ 0 0 0 false (.slice aL j cL)) (0, 0) _ rfl RS9.out.row Tryd.underlying63 ⟨_, rfl⟩ (by kernel_rfl)) rfl ?_
      rw [← HG4.out]
      refine ⟨aL, cL, ?_, fun y hy => Nat.le_trans hBn (HBL.out y hy), ?_, ?_⟩
      · show Ending.returned _ = Ending.returned (.tuple #[.agg (hdC 5 0 X1 X2 ⟨#[]⟩ 0 0 0 false (.slice aL (vsG f p3 j).length cL)), _, _, _])
        rw [vsG_len]
        rfl
      · obtain ⟨a', c', e1, h1, hat⟩ := HIN.out.at_
        injection e1 with e1 _ e3
        subst e1 e3
        refine ⟨aL, cL, rfl, h1, fun i hi => ?_⟩
        obtain ⟨bb, o, e2, hl, hcell⟩ := hat i hi
        have hbb : B0 ≤ bb := HBL.out _ e2
        have hne : bb ≠ n := by have := HXE.out.hh; omega
        exact ⟨bb, o, e2, by rw [RS9.out.size]; exact hl, by rw [RS9.out.chg.cell (p := ⟨bb, o + i, none⟩) hl hne]; exact hcell⟩
      · rw [HNS.out]
        exact HXE.out.d.bl.trans (RS9.out.below n (Nat.le_refl _))
end Go.Proofs.YtcgbhcmgddgheaaDoor
