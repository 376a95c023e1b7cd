/-
  THE DOCUMENT's Get OF LONG HEADERS WITH A VERSION.
-/
import Derived.Test.YtcgbhcmgddgheaaDoorRdZa
namespace Go.Proofs.YtcgbhcmgddgheaaDoor
open Go Go.RowKit Go.BigFrame
set_option linter.unusedSimpArgs false
set_option linter.unusedVariables false
set_option maxRecDepth 100000
set_option maxHeartbeats 32000000 in
theorem docGet_0b (f : Nat → BitVec 8) (len : Nat) (own : Int) (w : World) (hm : len ≤ 9223372036854775807) (ho : 0 ≤ own ∧ own ≤ 20) (hl1 : 5 ≤ len) (hF : 192 ≤ (f 0).toNat) (hV0 : ¬ numG (fun i => f (1 + i)) 4 = 0) (hn1h : Hid (nmR (len - 5) (f 5).toNat = 0)) (hn2h : Hid (nmR (len - (5 + 1 + (f 5).toNat)) (f (5 + 1 + (f 5).toNat)).toNat = 0)) (hk : Hid ((f 0).toNat / 16 % 4 = 0)) (hyes : Hid (∀ p, 5 + 1 + (f 5).toNat + 1 + (f (5 + 1 + (f 5).toNat)).toNat = p → ctG len f p = true ∧ ¬ 512 < getV (fun i => f (p + i)) (len - p) ∧ ¬ len - (p + getK (fun i => f (p + i)) (len - p)) < getV (fun i => f (p + i)) (len - p))) :
    Calls Tryd.prog 36 #[.string (strOf f len), .int .i64 own] w (GotPost (getP f len own) w) := by
  have hs := strOf_size f len
  have hl0 : len ≠ 0 := by omega
  have he := str_full (f := f) hl0
  have hx : ∀ w : World, _ := run_at_str f len 0 (by omega)
  rw [show ((0 : Nat) : Int) = 0 from rfl] at hx
  have hF2 := (f 0).isLt
  have hw : wrap64 (n8 (f 0)) = ((f 0).toNat : Int) := by rw [n8_nat]; unfold wrap64; omega
  have hFj : ¬ ((f 0).toNat : Int) < 128 := by omega
  obtain ⟨o0, o1⟩ := ho
  have k15 : ∀ w : World, _ := run_cut_str f 1 5 len (by omega) (by omega)
  rw [show 5 - 1 = 4 from rfl, show ((1 : Nat) : Int) = 1 from rfl, show ((5 : Nat) : Int) = 5 from rfl] at k15
  have NB := Lib.hid (fun (w' : World) => refNumber_any (fun i => f (1 + i)) 4 (by omega) w')
  have h5i : ¬ (len : Int) < 5 := by omega
  have h5j : 5 ≤ (len : Int) := by omega
  have k5 : ∀ w : World, _ := run_tail_str f 5 len (by omega)
  rw [show ((5 : Nat) : Int) = 5 from rfl] at k5
  obtain ⟨g, hg⟩ : ∃ g, getP f len own = g := ⟨_, rfl⟩
  rw [hg]
  rw [getP_long ⟨o0, o1⟩ hl0 (by omega) (.inl hF)] at hg
  have HG := Lib.hid hg
  have N1 := Lib.hid (fun (w' : World) => refName_any (fun i => f (5 + i)) (len - 5) (by omega) w')
  obtain ⟨V, hV⟩ : ∃ V, numG (fun i => f (1 + i)) 4 = V := ⟨_, rfl⟩
  obtain ⟨F, hFF⟩ : ∃ F, (f 0).toNat = F := ⟨_, rfl⟩
  have HV := Lib.hid hV
  have HF := Lib.hid hFF
  rw [hV] at NB hV0
  rw [hFF] at hw hFj hF hF2
  have hFi : ¬ (F : Int) < 192 := by omega
  have hVb : ((V : Int) == 0) = false := beq_eq_false_iff_ne.2 (by omega)
  have hq : (F : Int).tdiv 16 = ((F / 16 : Nat) : Int) := by rw [Int.tdiv_eq_ediv_of_nonneg (by omega)]; omega
  have hr : ((F / 16 : Nat) : Int).tmod 4 = ((F / 16 % 4 : Nat) : Int) := by rw [Int.tmod_eq_emod_of_nonneg (by omega)]; omega
  obtain ⟨Q, hQ⟩ : ∃ Q, F / 16 = Q := ⟨_, rfl⟩
  obtain ⟨K, hK⟩ : ∃ K, Q % 4 = K := ⟨_, rfl⟩
  have hkf : F / 16 % 4 = K := by rw [hQ, hK]
  have HK := Lib.hid hkf
  rw [hQ] at hq hr
  rw [hK] at hr
  have hQ9 : Q ≤ 15 := by omega
  have hK9 : K < 4 := by omega
  generalize strOf (fun i => f (1 + i)) 4 = t15 at *
  generalize strOf (fun i => f (5 + i)) (len - 5) = t5 at *
  generalize strOf f len = s at *
  clear hg hV hFF hQ hK hF hF2
  have q0 : ((w.alloc (.cells (hdC 0 0 ⟨#[]⟩ ⟨#[]⟩ ⟨#[]⟩ 0 0 0 false (.slice none 0 0)) 63)).alloc (.cells (hdC 0 0 ⟨#[]⟩ ⟨#[]⟩ ⟨#[]⟩ 0 0 0 false (.slice none 0 0)) 63)).heap[w.heap.size]? = some (.cells (hdC 0 0 ⟨#[]⟩ ⟨#[]⟩ ⟨#[]⟩ 0 0 0 false (.slice none 0 0)) 63 (0, 0)) := rows_alloc w [.cells (hdC 0 0 ⟨#[]⟩ ⟨#[]⟩ ⟨#[]⟩ 0 0 0 false (.slice none 0 0)) 63, .cells (hdC 0 0 ⟨#[]⟩ ⟨#[]⟩ ⟨#[]⟩ 0 0 0 false (.slice none 0 0)) 63] 0
  have q1 : ((w.alloc (.cells (hdC 0 0 ⟨#[]⟩ ⟨#[]⟩ ⟨#[]⟩ 0 0 0 false (.slice none 0 0)) 63)).alloc (.cells (hdC 0 0 ⟨#[]⟩ ⟨#[]⟩ ⟨#[]⟩ 0 0 0 false (.slice none 0 0)) 63)).heap[w.heap.size + 1]? = some (.cells (hdC 0 0 ⟨#[]⟩ ⟨#[]⟩ ⟨#[]⟩ 0 0 0 false (.slice none 0 0)) 63 (0, 0)) := rows_alloc w [.cells (hdC 0 0 ⟨#[]⟩ ⟨#[]⟩ ⟨#[]⟩ 0 0 0 false (.slice none 0 0)) 63, .cells (hdC 0 0 ⟨#[]⟩ ⟨#[]⟩ ⟨#[]⟩ 0 0 0 false (.slice none 0 0)) 63] 1
  have bel : Below w.heap.size w ((w.alloc (.cells (hdC 0 0 ⟨#[]⟩ ⟨#[]⟩ ⟨#[]⟩ 0 0 0 false (.slice none 0 0)) 63)).alloc (.cells (hdC 0 0 ⟨#[]⟩ ⟨#[]⟩ ⟨#[]⟩ 0 0 0 false (.slice none 0 0)) 63)) := ((Below.refl w.heap.size w).alloc (Nat.le_refl _) _).alloc (by simp) _
  have hs1 : (w.alloc (.cells (hdC 0 0 ⟨#[]⟩ ⟨#[]⟩ ⟨#[]⟩ 0 0 0 false (.slice none 0 0)) 63)).heap.size = w.heap.size + 1 := by simp
  have Q0 := Lib.hid q0
  have Q1 := Lib.hid q1
  have BEL := Lib.hid bel
  clear q0 q1 bel
  go_enter Tryd.func36, Tryd.ntmps36
  go_upto_region 2 with (first
    | (refine wpList_alloc_row (o := ⟨some 4, .alloc 63, _, _, _, _⟩) rfl 63 rfl _ refhd_zero ?_)
    | (refine wpList_alloc_row (o := ⟨some 8, .alloc 63, _, _, _, _⟩) rfl 63 rfl _ refhd_zero ?_
       simp only [hs1, Act.put, List.setIfInBounds_toArray, List.set_cons_succ, List.set_cons_zero])
    | (refine wpList_store_row (op := ⟨none, .store 63 _ _, _, _, _, _⟩) rfl 63 _ _ rfl (w.heap.size + 1) 63 _ (hdC 0 0 ⟨#[]⟩ ⟨#[]⟩ ⟨#[]⟩ 0 0 0 false (.slice none 0 0)) rfl rfl Q1.out rfl (by kernel_rfl) (hdC_one _ _ _ _ _ _ _ _ _) ?_
       intro w1 rs
       have D : Hid (DSt w w.heap.size w1) := Lib.hid ⟨rs.keep (by omega) Q0.out, rs.row, BEL.out.trans (rs.below _ (Nat.le_succ _))⟩
       clear rs)
    | fail)
  generalize hn : w.heap.size = n at *
  have HNS := Lib.hid hn
  clear hn Q0 Q1 BEL hs1
  go_wp2_with fail
  with_reducible refine (NB.out _).mono ?_
  rintro x w' ⟨rfl, rfl⟩
  go_upto_region 18 with (fail)
  go_wp2_with fail
  with_reducible refine (NB.out _).mono ?_
  rintro x w' ⟨rfl, rfl⟩
  go_upto_region 19 with (first
    | (refine wpList_alloc_row (o := ⟨some 11, .alloc 63, _, _, _, _⟩) rfl 63 rfl _ refhd_zero ?_)
    | (refine wpList_store_new (o := ⟨none, .store 63 _ _, _, _, _, _⟩) rfl 63 _ _ rfl (hdC 0 0 ⟨#[]⟩ ⟨#[]⟩ ⟨#[]⟩ 0 0 0 false (.slice none 0 0)) (hdC (K : Int) (V : Int) ⟨#[]⟩ ⟨#[]⟩ ⟨#[]⟩ 0 0 0 false (.slice none 0 0)) _ rfl rfl rfl (by kernel_rfl) rfl (hdC_one _ _ _ _ _ _ _ _ _) ?_)
    | fail)
  have hst := HSt.made (k := (K : Int)) (v := (V : Int)) D.out rfl
  simp only [Act.put, List.setIfInBounds_toArray, List.set_cons_succ, List.set_cons_zero]
  generalize World.alloc _ _ = w2 at *
  generalize w1.heap.size = H at *
  have HS := Lib.hid hst
  clear hst NB k15 D
  go_wp2_with fail
  refine (N1.out w2).mono ?_
  rintro x w3 ⟨rfl, hb3⟩
  have H3 := Lib.hid (HS.out.later hb3)
  have D := Lib.hid (HS.out.later hb3).d
  clear hb3 HS N1 k5
  have hn1 := hn1h.out
  rw [nmOut_ok hn1]
  have hp2l := (nm_ok hn1).2.2.2
  obtain ⟨p2, hp2⟩ : ∃ p2, 5 + 1 + (f 5).toNat = p2 := ⟨_, rfl⟩
  obtain ⟨X1, hX1⟩ : ∃ X1, strOf (fun i => f (5 + 1 + i)) (f 5).toNat = X1 := ⟨_, rfl⟩
  have N2 := Lib.hid (fun (w' : World) => refName_any (fun i => f (p2 + i)) (len - p2) (by omega) w')
  rw [hp2] at hp2l ⊢
  rw [hX1]
  generalize hT6 : strOf (fun i => f (p2 + i)) (len - p2) = t6 at N2 ⊢
  have HX := Lib.hid (And.intro hp2 hX1)
  clear hp2 hX1 hT6
  go_wp2_with fail
  refine (N2.out w3).mono ?_
  rintro x w4 ⟨rfl, hb4⟩
  have H4 := Lib.hid (H3.out.later hb4)
  have D := Lib.hid (H3.out.later hb4).d
  clear hb4 H3 N2
  have hn2 : nmR (len - p2) (f p2).toNat = 0 := by rw [← HX.out.1]; exact hn2h.out
  rw [nmOut_ok hn2]
  have hg := HG.out
  rw [long_ok hl1 hn1 (by rw [HX.out.1]; exact hn2), HX.out.1, HX.out.2, HV.out, kind4, HF.out, HK.out] at hg
  have hKq : K = 0 := by rw [← HK.out, ← HF.out]; exact hk.out
  have hp3l := (nm_ok hn2).2.2.2
  have hp3' : 5 + 1 + (f 5).toNat + 1 + (f (5 + 1 + (f 5).toNat)).toNat = p2 + 1 + (f p2).toNat := by rw [HX.out.1]
  have HP := Lib.hid (hyes.out _ hp3')
  generalize hp3 : p2 + 1 + (f p2).toNat = p3 at hg hp3l HP ⊢
  generalize hX2 : strOf (fun i => f (p2 + 1 + i)) (f p2).toNat = X2 at hg ⊢
  generalize hT7 : strOf (fun i => f (p3 + i)) (len - p3) = t7 at ⊢
  have HG2 := Lib.hid hg
  have HT7 := Lib.hid hT7
  clear hg HG hp3 hX2 HX hn1 hn2 HV HF HK hT7 hp2l
  have fr2 := H4.out.free 2
  have fr3 := (H4.out.put 2 (.string X1) rfl).free 3
  obtain ⟨c0, c1, c2, c3, c4, c5⟩ := H4.out.cells
  obtain ⟨d0, d1, d2, d3, d4, d5⟩ := (H4.out.put 2 (.string X1) rfl).cells
  have H5 := Lib.hid ((H4.out.put 2 (.string X1) rfl).put 3 (.string X2) rfl)
  go_upto_region 34 with (fail)
  generalize (w4.setCell ⟨H, 2, none⟩ (.string X1)).setCell ⟨H, 3, none⟩ (.string X2) = w5 at *
  have HX := H5
  clear H5 H4 fr2 fr3 c0 c1 c2 c3 c4 c5 d0 d1 d2 d3 d4 d5 D
  obtain ⟨c0, c1, c2, c3, c4, c5⟩ := HX.out.cells
  have hz7 : t7.size = len - p3 := by rw [← HT7.out]; exact strOf_size _ _
  have HTX := HT7
  clear HT7
  obtain rfl : K = 0 := hKq
  have GA := Lib.hid (fun (w' : World) => refGet_any (fun i => f (p3 + i)) (len - p3) w' (by unfold maxLen; omega))
  rw [HTX.out] at GA
  have hlt8 := getV_lt (fun i => f (p3 + i)) (len - p3)
  have hK8 : getK (fun i => f (p3 + i)) (len - p3) ≤ len - p3 := by
    unfold getK
    split
    · rename_i h1
      unfold isNum at h1
      exact (of_decide_eq_true h1).2
    · omega
  obtain ⟨hcu, hbig8, hfew8⟩ := HP.out
  rw [show gotten (fun i => f (p3 + i)) (len - p3) = .tuple #[.int .u64 (getV (fun i => f (p3 + i)) (len - p3) : Int), .int .i64 (getK (fun i => f (p3 + i)) (len - p3) : Int), .int .i64 0] from by
    unfold ctG at hcu; unfold gotten; rw [show getE (fun i => f (p3 + i)) (len - p3) = 0 from by unfold getE; rw [if_pos hcu]]] at GA
  have hg := HG2.out
  rw [lk_0_ok hV0 hcu (by omega) (by omega)] at hg
  clear HG2
  have ka : ∀ w : World, _ := run_cut_str (fun i => f (p3 + i)) (getK (fun i => f (p3 + i)) (len - p3)) (getK (fun i => f (p3 + i)) (len - p3) + getV (fun i => f (p3 + i)) (len - p3)) (len - p3) (by omega) (by omega)
  have kb : ∀ w : World, _ := run_tail_str (fun i => f (p3 + i)) (getK (fun i => f (p3 + i)) (len - p3) + getV (fun i => f (p3 + i)) (len - p3)) (len - p3) (by omega)
  rw [HTX.out] at ka kb
  generalize getV (fun i => f (p3 + i)) (len - p3) = V8 at *
  generalize getK (fun i => f (p3 + i)) (len - p3) = K8 at *
  have hka : strOf (fun i => (fun i => f (p3 + i)) (K8 + i)) (K8 + V8 - K8) = strOf (fun i => f (p3 + K8 + i)) V8 := by
    rw [show K8 + V8 - K8 = V8 by omega]
    simp only [Nat.add_assoc]
  have hkb : strOf (fun i => (fun i => f (p3 + i)) (K8 + V8 + i)) (len - p3 - (K8 + V8)) = strOf (fun i => f (p3 + K8 + V8 + i)) (len - (p3 + K8 + V8)) := by
    rw [show len - p3 - (K8 + V8) = len - (p3 + K8 + V8) by omega]
    simp only [Nat.add_assoc]
  rw [hka, show ((K8 + V8 : Nat) : Int) = (K8 : Int) + (V8 : Int) by omega] at ka
  rw [hkb, show ((K8 + V8 : Nat) : Int) = (K8 : Int) + (V8 : Int) by omega] at kb
  have hp5l : p3 + K8 + V8 ≤ len := by omega
  generalize strOf (fun i => f (p3 + K8 + i)) V8 = X3 at ka hg
  generalize p3 + K8 + V8 = p5 at kb hg hp5l
  generalize hT8 : strOf (fun i => f (p5 + i)) (len - p5) = t8 at kb
  have HG2 := Lib.hid hg
  obtain ⟨L3, hL3⟩ : ∃ L3, len - p3 = L3 := ⟨_, rfl⟩
  have hL3i : L3 ≤ 9223372036854775807 := by omega
  rw [hL3] at hz7
  have hbi0 : ¬ (512 : Int) < (V8 : Int) := by omega
  have hfi0 : ¬ (L3 : Int) - (K8 : Int) < (V8 : Int) := by omega
  have hK8i : K8 ≤ 9223372036854775807 := by omega
  have hkv : (K8 : Int) + (V8 : Int) ≤ 9223372036854775807 := by omega
  have hwv0 : Value.int .i64 (wrap64 (V8 : Int)) = Value.int .i64 (V8 : Int) := by rw [show wrap64 (V8 : Int) = (V8 : Int) from by unfold wrap64; omega]
  have fr4 := HX.out.free 4
  have HY := Lib.hid (HX.out.put 4 (.string X3) rfl)
  have HTX5 := Lib.hid hT8
  clear hcu hbig8 hK8 hL3 hfew8 hg hka hkb hlt8 hT8 HTX
  go_wp2_with fail
  refine (GA.out _).mono ?_
  rintro x w' ⟨rfl, rfl⟩
  go_upto_region 49 with (fail)
  clear fr4 c0 c1 c2 c3 c4 c5 HX ka kb hz7 GA hfi0 hbi0 hkv
  have HX := HY
  have HTX := HTX5
  clear HY HTX5
  generalize World.setCell _ _ _ = wz at *
  have GT := Lib.hid (fun (w' : World) => refGet_any (fun i => f (p5 + i)) (len - p5) w' (by unfold maxLen; omega))
  rw [HTX.out] at GT
  have hlt9 := getV_lt (fun i => f (p5 + i)) (len - p5)
  have hK9 : getK (fun i => f (p5 + i)) (len - p5) ≤ len - p5 := by
    unfold getK
    split
    · rename_i h1
      unfold isNum at h1
      exact (of_decide_eq_true h1).2
    · omega
  by_cases hct : ctG len f p5 = true
  rotate_left
  · have hct' : ctG len f p5 = false := by simpa using hct
    have hg := HG2.out
    rw [cnt_no hct'] at hg
    subst hg
    rw [show gotten (fun i => f (p5 + i)) (len - p5) = .tuple #[.int .u64 0, .int .i64 0, .int .i64 3] from by
      unfold ctG at hct'; unfold gotten getV getK getE; rw [hct']; rfl] at GT
    clear HG2 hct hct' hlt9 hK9
    go_wp2_with fail
    refine (GT.out _).mono ?_
    rintro x w' ⟨rfl, rfl⟩
    go_wp2_with (first
      | (refine wpList_load_row (o := ⟨some 202, .load 63 _, _, _, _, _⟩) rfl 63 _ rfl (n + 1) rfl _ _ (0, 0) _ HX.out.d.nn Tryd.underlying63 rfl (by kernel_rfl) ?_)
      | (refine wpList_store_row (op := ⟨none, .store 63 _ _, _, _, _, _⟩) rfl 63 _ _ rfl n 63 _ (hdC 0 0 ⟨#[]⟩ ⟨#[]⟩ ⟨#[]⟩ 0 0 0 false (.slice none 0 0)) rfl rfl HX.out.d.rs rfl (by kernel_rfl) (hdC_one _ _ _ _ _ _ _ _ _) ?_
         intro w9 rs
         have RS9 := Lib.hid rs
         clear rs)
      | fail)
    refine bodyPost_ret (results_hd rfl _ _ n 63 (hdC 0 0 ⟨#[]⟩ ⟨#[]⟩ ⟨#[]⟩ 0 0 0 false (.slice none 0 0)) (0, 0) _ rfl RS9.out.row Tryd.underlying63 ⟨_, rfl⟩ (by kernel_rfl)) rfl ?_
    exact GotPost.no_ 3 w _ n HNS.out (HX.out.d.bl.trans (RS9.out.below n (Nat.le_refl _))) _ rfl
  rw [show gotten (fun i => f (p5 + i)) (len - p5) = .tuple #[.int .u64 (getV (fun i => f (p5 + i)) (len - p5) : Int), .int .i64 (getK (fun i => f (p5 + i)) (len - p5) : Int), .int .i64 0] from by
    unfold ctG at hct; unfold gotten; rw [show getE (fun i => f (p5 + i)) (len - p5) = 0 from by unfold getE; rw [if_pos hct]]] at GT
  by_cases hbig : 16383 < getV (fun i => f (p5 + i)) (len - p5)
  · have hg := HG2.out
    rw [cnt_big hct hbig] at hg
    subst hg
    generalize getV (fun i => f (p5 + i)) (len - p5) = VV at *
    generalize getK (fun i => f (p5 + i)) (len - p5) = KK at *
    have hbi : (16383 : Int) < (VV : Int) := by omega
    clear HG2 hct hbig hK9
    go_wp2_with fail
    refine (GT.out _).mono ?_
    rintro x w' ⟨rfl, rfl⟩
    go_wp2_with (first
      | (refine wpList_load_row (o := ⟨some 206, .load 63 _, _, _, _, _⟩) rfl 63 _ rfl (n + 1) rfl _ _ (0, 0) _ HX.out.d.nn Tryd.underlying63 rfl (by kernel_rfl) ?_)
      | (refine wpList_store_row (op := ⟨none, .store 63 _ _, _, _, _, _⟩) rfl 63 _ _ rfl n 63 _ (hdC 0 0 ⟨#[]⟩ ⟨#[]⟩ ⟨#[]⟩ 0 0 0 false (.slice none 0 0)) rfl rfl HX.out.d.rs rfl (by kernel_rfl) (hdC_one _ _ _ _ _ _ _ _ _) ?_
         intro w9 rs
         have RS9 := Lib.hid rs
         clear rs)
      | fail)
    refine bodyPost_ret (results_hd rfl _ _ n 63 (hdC 0 0 ⟨#[]⟩ ⟨#[]⟩ ⟨#[]⟩ 0 0 0 false (.slice none 0 0)) (0, 0) _ rfl RS9.out.row Tryd.underlying63 ⟨_, rfl⟩ (by kernel_rfl)) rfl ?_
    exact GotPost.no_ 2 w _ n HNS.out (HX.out.d.bl.trans (RS9.out.below n (Nat.le_refl _))) _ rfl
  have kt : ∀ w : World, _ := run_tail_str (fun i => f (p5 + i)) (getK (fun i => f (p5 + i)) (len - p5)) (len - p5) hK9
  rw [HTX.out] at kt
  have hz9 := strOf_size (fun i => (fun i => f (p5 + i)) (getK (fun i => f (p5 + i)) (len - p5) + i)) (len - p5 - getK (fun i => f (p5 + i)) (len - p5))
  generalize strOf (fun i => (fun i => f (p5 + i)) (getK (fun i => f (p5 + i)) (len - p5) + i)) (len - p5 - getK (fun i => f (p5 + i)) (len - p5)) = t9 at kt hz9
  by_cases hfew : len - (p5 + getK (fun i => f (p5 + i)) (len - p5)) < getV (fun i => f (p5 + i)) (len - p5)
  · have hg := HG2.out
    rw [cnt_few hct (by omega) hfew] at hg
    subst hg
    generalize getV (fun i => f (p5 + i)) (len - p5) = VV at *
    generalize getK (fun i => f (p5 + i)) (len - p5) = KK at *
    obtain ⟨L9, hL9⟩ : ∃ L9, len - p5 - KK = L9 := ⟨_, rfl⟩
    have hL9i : L9 ≤ 9223372036854775807 := by omega
    rw [hL9] at hz9
    have hbi : ¬ (16383 : Int) < (VV : Int) := by omega
    have hfi : (L9 : Int) < (VV : Int) := by omega
    have hwv : Value.int .i64 (wrap64 (VV : Int)) = Value.int .i64 (VV : Int) := by rw [show wrap64 (VV : Int) = (VV : Int) from by unfold wrap64; omega]
    clear HG2 hct hbig hK9 hL9 hfew
    go_wp2_with fail
    refine (GT.out _).mono ?_
    rintro x w' ⟨rfl, rfl⟩
    go_wp2_with (first
      | (refine wpList_load_row (o := ⟨some 215, .load 63 _, _, _, _, _⟩) rfl 63 _ rfl (n + 1) rfl _ _ (0, 0) _ HX.out.d.nn Tryd.underlying63 rfl (by kernel_rfl) ?_)
      | (refine wpList_store_row (op := ⟨none, .store 63 _ _, _, _, _, _⟩) rfl 63 _ _ rfl n 63 _ (hdC 0 0 ⟨#[]⟩ ⟨#[]⟩ ⟨#[]⟩ 0 0 0 false (.slice none 0 0)) rfl rfl HX.out.d.rs rfl (by kernel_rfl) (hdC_one _ _ _ _ _ _ _ _ _) ?_
         intro w9 rs
         have RS9 := Lib.hid rs
         clear rs)
      | fail)
    refine bodyPost_ret (results_hd rfl _ _ n 63 (hdC 0 0 ⟨#[]⟩ ⟨#[]⟩ ⟨#[]⟩ 0 0 0 false (.slice none 0 0)) (0, 0) _ rfl RS9.out.row Tryd.underlying63 ⟨_, rfl⟩ (by kernel_rfl)) rfl ?_
    exact GotPost.no_ 3 w _ n HNS.out (HX.out.d.bl.trans (RS9.out.below n (Nat.le_refl _))) _ rfl
  have hg := HG2.out
  rw [cnt_ok hct (by omega) (by omega)] at hg
  generalize getV (fun i => f (p5 + i)) (len - p5) = VV at *
  generalize getK (fun i => f (p5 + i)) (len - p5) = KK at *
  have HG3 := Lib.hid hg
  obtain ⟨L9, hL9⟩ : ∃ L9, len - p5 - KK = L9 := ⟨_, rfl⟩
  have hL9i : L9 ≤ 9223372036854775807 := by omega
  rw [hL9] at hz9
  have hbi : ¬ (16383 : Int) < (VV : Int) := by omega
  have hfi : ¬ (L9 : Int) < (VV : Int) := by omega
  have hwv : Value.int .i64 (wrap64 (VV : Int)) = Value.int .i64 (VV : Int) := by rw [show wrap64 (VV : Int) = (VV : Int) from by unfold wrap64; omega]
  obtain ⟨AT, hAT⟩ : ∃ AT, p5 + KK = AT := ⟨_, rfl⟩
  rw [hAT] at HG3
  have hat : (len : Int) - (L9 : Int) = (AT : Int) := by omega
  obtain ⟨EN, hEN⟩ : ∃ EN, AT + VV = EN := ⟨_, rfl⟩
  have hen : (AT : Int) + (VV : Int) = (EN : Int) := by omega
  have hen2 : EN ≤ 9223372036854775807 := by omega
  have HEN := Lib.hid hEN
  clear hEN
  have fr5 := HX.out.free 5
  obtain ⟨e0, e1, e2, e3, e4, e5⟩ := HX.out.cells
  have HY := Lib.hid (HX.out.put 5 (.int .i64 (VV : Int)) rfl)
  clear HG2 hct hbig hK9 hL9 hfew hAT hg hlt9
  go_wp2_with fail
  refine (GT.out _).mono ?_
  rintro x w' ⟨rfl, rfl⟩
  go_upto_region 59 with (fail)
  clear fr5 e0 e1 e2 e3 e4 e5 HX
  have HX := HY
  clear HY
  generalize World.setCell _ _ _ = wy at *
  go_wp2_with (first
    | (refine wpList_load_row (o := ⟨some 224, .load 63 _, _, _, _, _⟩) rfl 63 _ rfl H rfl _ _ (0, 0) _ HX.out.hd Tryd.underlying63 rfl (by kernel_rfl) ?_)
    | (refine wpList_store_row (op := ⟨none, .store 63 _ _, _, _, _, _⟩) rfl 63 _ _ rfl n 63 _ (hdC 0 (V : Int) X1 X2 X3 (VV : Int) 0 0 false (.slice none 0 0)) rfl rfl HX.out.d.rs rfl (by kernel_rfl) (hdC_one _ _ _ _ _ _ _ _ _) ?_
       intro w9 rs
       have RS9 := Lib.hid rs
       clear rs)
    | fail)
  refine bodyPost_ret (results_hd rfl _ _ n 63 (hdC 0 (V : Int) X1 X2 X3 (VV : Int) 0 0 false (.slice none 0 0)) (0, 0) _ rfl RS9.out.row Tryd.underlying63 ⟨_, rfl⟩ (by kernel_rfl)) rfl ?_
  rw [← HG3.out]
  exact ⟨none, 0, by rw [HEN.out]; rfl, (fun y hy => by cases hy), ints_none _, by rw [HNS.out]; exact HX.out.d.bl.trans (RS9.out.below n (Nat.le_refl _))⟩
end Go.Proofs.YtcgbhcmgddgheaaDoor
