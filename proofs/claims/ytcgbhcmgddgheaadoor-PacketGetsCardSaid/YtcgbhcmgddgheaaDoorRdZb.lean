/-
  THE DOCUMENT's Get OF LONG HEADERS WITH A VERSION.
  THE DOCUMENT's Get OF LONG HEADERS WITH NO VERSION.
  THE DOCUMENT's Get OF LONG HEADERS WITH NO VERSION.
-/
import Derived.Test.YtcgbhcmgddgheaaDoorRdZa
namespace Go.Proofs.YtcgbhcmgddgheaaDoor
open Go Go.RowKit Go.BigFrame
set_option linter.unusedSimpArgs false
set_option linter.unusedVariables false
set_option maxRecDepth 100000
set_option maxHeartbeats 32000000 in
theorem docGet_names (f : Nat → BitVec 8) (len : Nat) (own : Int) (w : World) (hm : len ≤ 9223372036854775807) (ho : 0 ≤ own ∧ own ≤ 20) (hl1 : 5 ≤ len) (hF : 192 ≤ (f 0).toNat) (hV0 : ¬ numG (fun i => f (1 + i)) 4 = 0) (hnb : ¬ (nmR (len - 5) (f 5).toNat = 0 ∧ nmR (len - (5 + 1 + (f 5).toNat)) (f (5 + 1 + (f 5).toNat)).toNat = 0)) :
    Calls Tryd.prog 36 #[.string (strOf f len), .int .i64 own] w (GotPost (getP f len own) w) := by
  have hs := strOf_size f len
  have hl0 : len ≠ 0 := by omega
  have he := str_full (f := f) hl0
  have hx : ∀ w : World, _ := run_at_str f len 0 (by omega)
  rw [show ((0 : Nat) : Int) = 0 from rfl] at hx
  have hF2 := (f 0).isLt
  have hw : wrap64 (n8 (f 0)) = ((f 0).toNat : Int) := by rw [n8_nat]; unfold wrap64; omega
  have hFj : ¬ ((f 0).toNat : Int) < 128 := by omega
  obtain ⟨o0, o1⟩ := ho
  have k15 : ∀ w : World, _ := run_cut_str f 1 5 len (by omega) (by omega)
  rw [show 5 - 1 = 4 from rfl, show ((1 : Nat) : Int) = 1 from rfl, show ((5 : Nat) : Int) = 5 from rfl] at k15
  have NB := Lib.hid (fun (w' : World) => refNumber_any (fun i => f (1 + i)) 4 (by omega) w')
  have h5i : ¬ (len : Int) < 5 := by omega
  have h5j : 5 ≤ (len : Int) := by omega
  have k5 : ∀ w : World, _ := run_tail_str f 5 len (by omega)
  rw [show ((5 : Nat) : Int) = 5 from rfl] at k5
  obtain ⟨g, hg⟩ : ∃ g, getP f len own = g := ⟨_, rfl⟩
  rw [hg]
  rw [getP_long ⟨o0, o1⟩ hl0 (by omega) (.inl hF)] at hg
  have HG := Lib.hid hg
  have N1 := Lib.hid (fun (w' : World) => refName_any (fun i => f (5 + i)) (len - 5) (by omega) w')
  obtain ⟨V, hV⟩ : ∃ V, numG (fun i => f (1 + i)) 4 = V := ⟨_, rfl⟩
  obtain ⟨F, hFF⟩ : ∃ F, (f 0).toNat = F := ⟨_, rfl⟩
  have HV := Lib.hid hV
  have HF := Lib.hid hFF
  rw [hV] at NB hV0
  rw [hFF] at hw hFj hF hF2
  have hFi : ¬ (F : Int) < 192 := by omega
  have hVb : ((V : Int) == 0) = false := beq_eq_false_iff_ne.2 (by omega)
  have hq : (F : Int).tdiv 16 = ((F / 16 : Nat) : Int) := by rw [Int.tdiv_eq_ediv_of_nonneg (by omega)]; omega
  have hr : ((F / 16 : Nat) : Int).tmod 4 = ((F / 16 % 4 : Nat) : Int) := by rw [Int.tmod_eq_emod_of_nonneg (by omega)]; omega
  obtain ⟨Q, hQ⟩ : ∃ Q, F / 16 = Q := ⟨_, rfl⟩
  obtain ⟨K, hK⟩ : ∃ K, Q % 4 = K := ⟨_, rfl⟩
  have hkf : F / 16 % 4 = K := by rw [hQ, hK]
  have HK := Lib.hid hkf
  rw [hQ] at hq hr
  rw [hK] at hr
  have hQ9 : Q ≤ 15 := by omega
  have hK9 : K < 4 := by omega
  generalize strOf (fun i => f (1 + i)) 4 = t15 at *
  generalize strOf (fun i => f (5 + i)) (len - 5) = t5 at *
  generalize strOf f len = s at *
  clear hg hV hFF hQ hK hF hF2
  have q0 : ((w.alloc (.cells (hdC 0 0 ⟨#[]⟩ ⟨#[]⟩ ⟨#[]⟩ 0 0 0 false (.slice none 0 0)) 63)).alloc (.cells (hdC 0 0 ⟨#[]⟩ ⟨#[]⟩ ⟨#[]⟩ 0 0 0 false (.slice none 0 0)) 63)).heap[w.heap.size]? = some (.cells (hdC 0 0 ⟨#[]⟩ ⟨#[]⟩ ⟨#[]⟩ 0 0 0 false (.slice none 0 0)) 63 (0, 0)) := rows_alloc w [.cells (hdC 0 0 ⟨#[]⟩ ⟨#[]⟩ ⟨#[]⟩ 0 0 0 false (.slice none 0 0)) 63, .cells (hdC 0 0 ⟨#[]⟩ ⟨#[]⟩ ⟨#[]⟩ 0 0 0 false (.slice none 0 0)) 63] 0
  have q1 : ((w.alloc (.cells (hdC 0 0 ⟨#[]⟩ ⟨#[]⟩ ⟨#[]⟩ 0 0 0 false (.slice none 0 0)) 63)).alloc (.cells (hdC 0 0 ⟨#[]⟩ ⟨#[]⟩ ⟨#[]⟩ 0 0 0 false (.slice none 0 0)) 63)).heap[w.heap.size + 1]? = some (.cells (hdC 0 0 ⟨#[]⟩ ⟨#[]⟩ ⟨#[]⟩ 0 0 0 false (.slice none 0 0)) 63 (0, 0)) := rows_alloc w [.cells (hdC 0 0 ⟨#[]⟩ ⟨#[]⟩ ⟨#[]⟩ 0 0 0 false (.slice none 0 0)) 63, .cells (hdC 0 0 ⟨#[]⟩ ⟨#[]⟩ ⟨#[]⟩ 0 0 0 false (.slice none 0 0)) 63] 1
  have bel : Below w.heap.size w ((w.alloc (.cells (hdC 0 0 ⟨#[]⟩ ⟨#[]⟩ ⟨#[]⟩ 0 0 0 false (.slice none 0 0)) 63)).alloc (.cells (hdC 0 0 ⟨#[]⟩ ⟨#[]⟩ ⟨#[]⟩ 0 0 0 false (.slice none 0 0)) 63)) := ((Below.refl w.heap.size w).alloc (Nat.le_refl _) _).alloc (by simp) _
  have hs1 : (w.alloc (.cells (hdC 0 0 ⟨#[]⟩ ⟨#[]⟩ ⟨#[]⟩ 0 0 0 false (.slice none 0 0)) 63)).heap.size = w.heap.size + 1 := by simp
  have Q0 := Lib.hid q0
  have Q1 := Lib.hid q1
  have BEL := Lib.hid bel
  clear q0 q1 bel
  go_enter Tryd.func36, Tryd.ntmps36
  go_upto_region 2 with (first
    | (refine wpList_alloc_row (o := ⟨some 4, .alloc 63, _, _, _, _⟩) rfl 63 rfl _ refhd_zero ?_)
    | (refine wpList_alloc_row (o := ⟨some 8, .alloc 63, _, _, _, _⟩) rfl 63 rfl _ refhd_zero ?_
       simp only [hs1, Act.put, List.setIfInBounds_toArray, List.set_cons_succ, List.set_cons_zero])
    | (refine wpList_store_row (op := ⟨none, .store 63 _ _, _, _, _, _⟩) rfl 63 _ _ rfl (w.heap.size + 1) 63 _ (hdC 0 0 ⟨#[]⟩ ⟨#[]⟩ ⟨#[]⟩ 0 0 0 false (.slice none 0 0)) rfl rfl Q1.out rfl (by kernel_rfl) (hdC_one _ _ _ _ _ _ _ _ _) ?_
       intro w1 rs
       have D : Hid (DSt w w.heap.size w1) := Lib.hid ⟨rs.keep (by omega) Q0.out, rs.row, BEL.out.trans (rs.below _ (Nat.le_succ _))⟩
       clear rs)
    | fail)
  generalize hn : w.heap.size = n at *
  have HNS := Lib.hid hn
  clear hn Q0 Q1 BEL hs1
  go_wp2_with fail
  with_reducible refine (NB.out _).mono ?_
  rintro x w' ⟨rfl, rfl⟩
  go_upto_region 18 with (fail)
  go_wp2_with fail
  with_reducible refine (NB.out _).mono ?_
  rintro x w' ⟨rfl, rfl⟩
  go_upto_region 19 with (first
    | (refine wpList_alloc_row (o := ⟨some 11, .alloc 63, _, _, _, _⟩) rfl 63 rfl _ refhd_zero ?_)
    | (refine wpList_store_new (o := ⟨none, .store 63 _ _, _, _, _, _⟩) rfl 63 _ _ rfl (hdC 0 0 ⟨#[]⟩ ⟨#[]⟩ ⟨#[]⟩ 0 0 0 false (.slice none 0 0)) (hdC (K : Int) (V : Int) ⟨#[]⟩ ⟨#[]⟩ ⟨#[]⟩ 0 0 0 false (.slice none 0 0)) _ rfl rfl rfl (by kernel_rfl) rfl (hdC_one _ _ _ _ _ _ _ _ _) ?_)
    | fail)
  have hst := HSt.made (k := (K : Int)) (v := (V : Int)) D.out rfl
  simp only [Act.put, List.setIfInBounds_toArray, List.set_cons_succ, List.set_cons_zero]
  generalize World.alloc _ _ = w2 at *
  generalize w1.heap.size = H at *
  have HS := Lib.hid hst
  clear hst NB k15 D
  go_wp2_with fail
  refine (N1.out w2).mono ?_
  rintro x w3 ⟨rfl, hb3⟩
  have H3 := Lib.hid (HS.out.later hb3)
  have D := Lib.hid (HS.out.later hb3).d
  clear hb3 HS N1 k5
  by_cases hn1 : nmR (len - 5) (f 5).toNat = 0
  rotate_left
  · rw [nmOut_bad rfl hn1]
    obtain ⟨r, hrr⟩ : ∃ r, nmR (len - 5) (f 5).toNat = r := ⟨_, rfl⟩
    have hg := HG.out
    rw [long_n1 hl1 hrr (by rw [← hrr]; exact hn1)] at hg
    subst hg
    rw [hrr] at hn1 ⊢
    have hrb : (r == 0) = false := beq_eq_false_iff_ne.2 hn1
    clear hrr HG HV HF HK hl1
    go_wp2_with (first
      | (refine wpList_load_row (o := ⟨some 92, .load 63 _, _, _, _, _⟩) rfl 63 _ rfl (n + 1) rfl _ _ (0, 0) _ D.out.nn Tryd.underlying63 rfl (by kernel_rfl) ?_)
      | (refine wpList_store_row (op := ⟨none, .store 63 _ _, _, _, _, _⟩) rfl 63 _ _ rfl n 63 _ (hdC 0 0 ⟨#[]⟩ ⟨#[]⟩ ⟨#[]⟩ 0 0 0 false (.slice none 0 0)) rfl rfl D.out.rs rfl (by kernel_rfl) (hdC_one _ _ _ _ _ _ _ _ _) ?_
         intro w9 rs
         have RS9 := Lib.hid rs
         clear rs)
      | fail)
    refine bodyPost_ret (results_hd rfl _ _ n 63 (hdC 0 0 ⟨#[]⟩ ⟨#[]⟩ ⟨#[]⟩ 0 0 0 false (.slice none 0 0)) (0, 0) _ rfl RS9.out.row Tryd.underlying63 ⟨_, rfl⟩ (by kernel_rfl)) rfl ?_
    exact GotPost.no_ r w _ n HNS.out (D.out.bl.trans (RS9.out.below n (Nat.le_refl _))) _ rfl
  rw [nmOut_ok hn1]
  have hp2l := (nm_ok hn1).2.2.2
  obtain ⟨p2, hp2⟩ : ∃ p2, 5 + 1 + (f 5).toNat = p2 := ⟨_, rfl⟩
  obtain ⟨X1, hX1⟩ : ∃ X1, strOf (fun i => f (5 + 1 + i)) (f 5).toNat = X1 := ⟨_, rfl⟩
  have N2 := Lib.hid (fun (w' : World) => refName_any (fun i => f (p2 + i)) (len - p2) (by omega) w')
  rw [hp2] at hp2l ⊢
  rw [hX1]
  generalize hT6 : strOf (fun i => f (p2 + i)) (len - p2) = t6 at N2 ⊢
  have HX := Lib.hid (And.intro hp2 hX1)
  clear hp2 hX1 hT6
  go_wp2_with fail
  refine (N2.out w3).mono ?_
  rintro x w4 ⟨rfl, hb4⟩
  have H4 := Lib.hid (H3.out.later hb4)
  have D := Lib.hid (H3.out.later hb4).d
  clear hb4 H3 N2
  by_cases hn2 : nmR (len - p2) (f p2).toNat = 0
  rotate_left
  · rw [nmOut_bad rfl hn2]
    obtain ⟨r, hrr⟩ : ∃ r, nmR (len - p2) (f p2).toNat = r := ⟨_, rfl⟩
    have hg := HG.out
    rw [long_n2 hl1 hn1 (r := r) (by rw [HX.out.1]; exact hrr) (by rw [← hrr]; exact hn2)] at hg
    subst hg
    rw [hrr] at hn2 ⊢
    have hrb : (r == 0) = false := beq_eq_false_iff_ne.2 hn2
    clear hrr HG HV HF HK hl1 hn1 HX
    go_wp2_with (first
      | (refine wpList_load_row (o := ⟨some 102, .load 63 _, _, _, _, _⟩) rfl 63 _ rfl (n + 1) rfl _ _ (0, 0) _ D.out.nn Tryd.underlying63 rfl (by kernel_rfl) ?_)
      | (refine wpList_store_row (op := ⟨none, .store 63 _ _, _, _, _, _⟩) rfl 63 _ _ rfl n 63 _ (hdC 0 0 ⟨#[]⟩ ⟨#[]⟩ ⟨#[]⟩ 0 0 0 false (.slice none 0 0)) rfl rfl D.out.rs rfl (by kernel_rfl) (hdC_one _ _ _ _ _ _ _ _ _) ?_
         intro w9 rs
         have RS9 := Lib.hid rs
         clear rs)
      | fail)
    refine bodyPost_ret (results_hd rfl _ _ n 63 (hdC 0 0 ⟨#[]⟩ ⟨#[]⟩ ⟨#[]⟩ 0 0 0 false (.slice none 0 0)) (0, 0) _ rfl RS9.out.row Tryd.underlying63 ⟨_, rfl⟩ (by kernel_rfl)) rfl ?_
    exact GotPost.no_ r w _ n HNS.out (D.out.bl.trans (RS9.out.below n (Nat.le_refl _))) _ rfl
  exact absurd ⟨hn1, by rw [HX.out.1]; exact hn2⟩ hnb
end Go.Proofs.YtcgbhcmgddgheaaDoor
namespace Go.Proofs.YtcgbhcmgddgheaaDoor
open Go Go.RowKit Go.BigFrame
set_option linter.unusedSimpArgs false
set_option linter.unusedVariables false
set_option maxRecDepth 100000
set_option maxHeartbeats 32000000 in
theorem docGet_vn_lo (f : Nat → BitVec 8) (len : Nat) (own : Int) (w : World) (hm : len ≤ 9223372036854775807) (ho : 0 ≤ own ∧ own ≤ 20) (hl1 : 5 ≤ len) (hF : 128 ≤ (f 0).toNat) (hF9 : (f 0).toNat < 192) (hV0 : numG (fun i => f (1 + i)) 4 = 0) (hnb : ¬ (nmR (len - 5) (f 5).toNat = 0 ∧ nmR (len - (5 + 1 + (f 5).toNat)) (f (5 + 1 + (f 5).toNat)).toNat = 0)) :
    Calls Tryd.prog 36 #[.string (strOf f len), .int .i64 own] w (GotPost (getP f len own) w) := by
  have hs := strOf_size f len
  have hl0 : len ≠ 0 := by omega
  have he := str_full (f := f) hl0
  have hx : ∀ w : World, _ := run_at_str f len 0 (by omega)
  rw [show ((0 : Nat) : Int) = 0 from rfl] at hx
  have hF2 := (f 0).isLt
  have hw : wrap64 (n8 (f 0)) = ((f 0).toNat : Int) := by rw [n8_nat]; unfold wrap64; omega
  have hFj : ¬ ((f 0).toNat : Int) < 128 := by omega
  obtain ⟨o0, o1⟩ := ho
  have k15 : ∀ w : World, _ := run_cut_str f 1 5 len (by omega) (by omega)
  rw [show 5 - 1 = 4 from rfl, show ((1 : Nat) : Int) = 1 from rfl, show ((5 : Nat) : Int) = 5 from rfl] at k15
  have NB := Lib.hid (fun (w' : World) => refNumber_any (fun i => f (1 + i)) 4 (by omega) w')
  have h5i : ¬ (len : Int) < 5 := by omega
  have h5j : 5 ≤ (len : Int) := by omega
  have k5 : ∀ w : World, _ := run_tail_str f 5 len (by omega)
  rw [show ((5 : Nat) : Int) = 5 from rfl] at k5
  obtain ⟨g, hg⟩ : ∃ g, getP f len own = g := ⟨_, rfl⟩
  rw [hg]
  rw [getP_long ⟨o0, o1⟩ hl0 (by omega) (.inr ⟨hl1, hV0⟩)] at hg
  have HG := Lib.hid hg
  have N1 := Lib.hid (fun (w' : World) => refName_any (fun i => f (5 + i)) (len - 5) (by omega) w')
  have HV := Lib.hid hV0
  rw [hV0, show ((0 : Nat) : Int) = 0 from rfl] at NB
  obtain ⟨F, hFF⟩ : ∃ F, (f 0).toNat = F := ⟨_, rfl⟩
  have HF := Lib.hid hFF
  rw [hFF] at hw hFj hF hF2 hF9
  have hFi : (F : Int) < 192 := by omega
  have hq : (F : Int).tdiv 16 = ((F / 16 : Nat) : Int) := by rw [Int.tdiv_eq_ediv_of_nonneg (by omega)]; omega
  have hr : ((F / 16 : Nat) : Int).tmod 4 = ((F / 16 % 4 : Nat) : Int) := by rw [Int.tmod_eq_emod_of_nonneg (by omega)]; omega
  obtain ⟨Q, hQ⟩ : ∃ Q, F / 16 = Q := ⟨_, rfl⟩
  obtain ⟨K, hK⟩ : ∃ K, Q % 4 = K := ⟨_, rfl⟩
  rw [hQ] at hq hr
  rw [hK] at hr
  have hQ9 : Q ≤ 15 := by omega
  have hK9 : K < 4 := by omega
  generalize strOf (fun i => f (1 + i)) 4 = t15 at *
  generalize strOf (fun i => f (5 + i)) (len - 5) = t5 at *
  generalize strOf f len = s at *
  clear hg hFF hQ hK hF hF2 hF9 hV0
  have q0 : ((w.alloc (.cells (hdC 0 0 ⟨#[]⟩ ⟨#[]⟩ ⟨#[]⟩ 0 0 0 false (.slice none 0 0)) 63)).alloc (.cells (hdC 0 0 ⟨#[]⟩ ⟨#[]⟩ ⟨#[]⟩ 0 0 0 false (.slice none 0 0)) 63)).heap[w.heap.size]? = some (.cells (hdC 0 0 ⟨#[]⟩ ⟨#[]⟩ ⟨#[]⟩ 0 0 0 false (.slice none 0 0)) 63 (0, 0)) := rows_alloc w [.cells (hdC 0 0 ⟨#[]⟩ ⟨#[]⟩ ⟨#[]⟩ 0 0 0 false (.slice none 0 0)) 63, .cells (hdC 0 0 ⟨#[]⟩ ⟨#[]⟩ ⟨#[]⟩ 0 0 0 false (.slice none 0 0)) 63] 0
  have q1 : ((w.alloc (.cells (hdC 0 0 ⟨#[]⟩ ⟨#[]⟩ ⟨#[]⟩ 0 0 0 false (.slice none 0 0)) 63)).alloc (.cells (hdC 0 0 ⟨#[]⟩ ⟨#[]⟩ ⟨#[]⟩ 0 0 0 false (.slice none 0 0)) 63)).heap[w.heap.size + 1]? = some (.cells (hdC 0 0 ⟨#[]⟩ ⟨#[]⟩ ⟨#[]⟩ 0 0 0 false (.slice none 0 0)) 63 (0, 0)) := rows_alloc w [.cells (hdC 0 0 ⟨#[]⟩ ⟨#[]⟩ ⟨#[]⟩ 0 0 0 false (.slice none 0 0)) 63, .cells (hdC 0 0 ⟨#[]⟩ ⟨#[]⟩ ⟨#[]⟩ 0 0 0 false (.slice none 0 0)) 63] 1
  have bel : Below w.heap.size w ((w.alloc (.cells (hdC 0 0 ⟨#[]⟩ ⟨#[]⟩ ⟨#[]⟩ 0 0 0 false (.slice none 0 0)) 63)).alloc (.cells (hdC 0 0 ⟨#[]⟩ ⟨#[]⟩ ⟨#[]⟩ 0 0 0 false (.slice none 0 0)) 63)) := ((Below.refl w.heap.size w).alloc (Nat.le_refl _) _).alloc (by simp) _
  have hs1 : (w.alloc (.cells (hdC 0 0 ⟨#[]⟩ ⟨#[]⟩ ⟨#[]⟩ 0 0 0 false (.slice none 0 0)) 63)).heap.size = w.heap.size + 1 := by simp
  have Q0 := Lib.hid q0
  have Q1 := Lib.hid q1
  have BEL := Lib.hid bel
  clear q0 q1 bel
  go_enter Tryd.func36, Tryd.ntmps36
  go_upto_region 2 with (first
    | (refine wpList_alloc_row (o := ⟨some 4, .alloc 63, _, _, _, _⟩) rfl 63 rfl _ refhd_zero ?_)
    | (refine wpList_alloc_row (o := ⟨some 8, .alloc 63, _, _, _, _⟩) rfl 63 rfl _ refhd_zero ?_
       simp only [hs1, Act.put, List.setIfInBounds_toArray, List.set_cons_succ, List.set_cons_zero])
    | (refine wpList_store_row (op := ⟨none, .store 63 _ _, _, _, _, _⟩) rfl 63 _ _ rfl (w.heap.size + 1) 63 _ (hdC 0 0 ⟨#[]⟩ ⟨#[]⟩ ⟨#[]⟩ 0 0 0 false (.slice none 0 0)) rfl rfl Q1.out rfl (by kernel_rfl) (hdC_one _ _ _ _ _ _ _ _ _) ?_
       intro w1 rs
       have D : Hid (DSt w w.heap.size w1) := Lib.hid ⟨rs.keep (by omega) Q0.out, rs.row, BEL.out.trans (rs.below _ (Nat.le_succ _))⟩
       clear rs)
    | fail)
  generalize hn : w.heap.size = n at *
  have HNS := Lib.hid hn
  clear hn Q0 Q1 BEL hs1
  go_wp2_with fail
  with_reducible refine (NB.out _).mono ?_
  rintro x w' ⟨rfl, rfl⟩
  go_upto_region 18 with (fail)
  go_wp2_with fail
  with_reducible refine (NB.out _).mono ?_
  rintro x w' ⟨rfl, rfl⟩
  go_upto_region 19 with (first
    | (refine wpList_alloc_row (o := ⟨some 11, .alloc 63, _, _, _, _⟩) rfl 63 rfl _ refhd_zero ?_)
    | (refine wpList_store_new (o := ⟨none, .store 63 _ _, _, _, _, _⟩) rfl 63 _ _ rfl (hdC 0 0 ⟨#[]⟩ ⟨#[]⟩ ⟨#[]⟩ 0 0 0 false (.slice none 0 0)) (hdC (K : Int) 0 ⟨#[]⟩ ⟨#[]⟩ ⟨#[]⟩ 0 0 0 false (.slice none 0 0)) _ rfl rfl rfl (by kernel_rfl) rfl (hdC_one _ _ _ _ _ _ _ _ _) ?_)
    | fail)
  have hst := HSt.made (k := (K : Int)) (v := 0) D.out rfl
  simp only [Act.put, List.setIfInBounds_toArray, List.set_cons_succ, List.set_cons_zero]
  generalize World.alloc _ _ = w2 at *
  generalize w1.heap.size = H at *
  have HS := Lib.hid hst
  clear hst NB k15 D
  go_wp2_with fail
  refine (N1.out w2).mono ?_
  rintro x w3 ⟨rfl, hb3⟩
  have H3 := Lib.hid (HS.out.later hb3)
  have D := Lib.hid (HS.out.later hb3).d
  clear hb3 HS N1 k5
  by_cases hn1 : nmR (len - 5) (f 5).toNat = 0
  rotate_left
  · rw [nmOut_bad rfl hn1]
    obtain ⟨r, hrr⟩ : ∃ r, nmR (len - 5) (f 5).toNat = r := ⟨_, rfl⟩
    have hg := HG.out
    rw [long_n1 hl1 hrr (by rw [← hrr]; exact hn1)] at hg
    subst hg
    rw [hrr] at hn1 ⊢
    have hrb : (r == 0) = false := beq_eq_false_iff_ne.2 hn1
    clear hrr HG HV HF hl1
    go_wp2_with (first
      | (refine wpList_load_row (o := ⟨some 92, .load 63 _, _, _, _, _⟩) rfl 63 _ rfl (n + 1) rfl _ _ (0, 0) _ D.out.nn Tryd.underlying63 rfl (by kernel_rfl) ?_)
      | (refine wpList_store_row (op := ⟨none, .store 63 _ _, _, _, _, _⟩) rfl 63 _ _ rfl n 63 _ (hdC 0 0 ⟨#[]⟩ ⟨#[]⟩ ⟨#[]⟩ 0 0 0 false (.slice none 0 0)) rfl rfl D.out.rs rfl (by kernel_rfl) (hdC_one _ _ _ _ _ _ _ _ _) ?_
         intro w9 rs
         have RS9 := Lib.hid rs
         clear rs)
      | fail)
    refine bodyPost_ret (results_hd rfl _ _ n 63 (hdC 0 0 ⟨#[]⟩ ⟨#[]⟩ ⟨#[]⟩ 0 0 0 false (.slice none 0 0)) (0, 0) _ rfl RS9.out.row Tryd.underlying63 ⟨_, rfl⟩ (by kernel_rfl)) rfl ?_
    exact GotPost.no_ r w _ n HNS.out (D.out.bl.trans (RS9.out.below n (Nat.le_refl _))) _ rfl
  rw [nmOut_ok hn1]
  have hp2l := (nm_ok hn1).2.2.2
  obtain ⟨p2, hp2⟩ : ∃ p2, 5 + 1 + (f 5).toNat = p2 := ⟨_, rfl⟩
  obtain ⟨X1, hX1⟩ : ∃ X1, strOf (fun i => f (5 + 1 + i)) (f 5).toNat = X1 := ⟨_, rfl⟩
  have N2 := Lib.hid (fun (w' : World) => refName_any (fun i => f (p2 + i)) (len - p2) (by omega) w')
  rw [hp2] at hp2l ⊢
  rw [hX1]
  generalize hT6 : strOf (fun i => f (p2 + i)) (len - p2) = t6 at N2 ⊢
  have HX := Lib.hid (And.intro hp2 hX1)
  clear hp2 hX1 hT6
  go_wp2_with fail
  refine (N2.out w3).mono ?_
  rintro x w4 ⟨rfl, hb4⟩
  have H4 := Lib.hid (H3.out.later hb4)
  have D := Lib.hid (H3.out.later hb4).d
  clear hb4 H3 N2
  by_cases hn2 : nmR (len - p2) (f p2).toNat = 0
  rotate_left
  · rw [nmOut_bad rfl hn2]
    obtain ⟨r, hrr⟩ : ∃ r, nmR (len - p2) (f p2).toNat = r := ⟨_, rfl⟩
    have hg := HG.out
    rw [long_n2 hl1 hn1 (r := r) (by rw [HX.out.1]; exact hrr) (by rw [← hrr]; exact hn2)] at hg
    subst hg
    rw [hrr] at hn2 ⊢
    have hrb : (r == 0) = false := beq_eq_false_iff_ne.2 hn2
    clear hrr HG HV HF hl1 hn1 HX
    go_wp2_with (first
      | (refine wpList_load_row (o := ⟨some 102, .load 63 _, _, _, _, _⟩) rfl 63 _ rfl (n + 1) rfl _ _ (0, 0) _ D.out.nn Tryd.underlying63 rfl (by kernel_rfl) ?_)
      | (refine wpList_store_row (op := ⟨none, .store 63 _ _, _, _, _, _⟩) rfl 63 _ _ rfl n 63 _ (hdC 0 0 ⟨#[]⟩ ⟨#[]⟩ ⟨#[]⟩ 0 0 0 false (.slice none 0 0)) rfl rfl D.out.rs rfl (by kernel_rfl) (hdC_one _ _ _ _ _ _ _ _ _) ?_
         intro w9 rs
         have RS9 := Lib.hid rs
         clear rs)
      | fail)
    refine bodyPost_ret (results_hd rfl _ _ n 63 (hdC 0 0 ⟨#[]⟩ ⟨#[]⟩ ⟨#[]⟩ 0 0 0 false (.slice none 0 0)) (0, 0) _ rfl RS9.out.row Tryd.underlying63 ⟨_, rfl⟩ (by kernel_rfl)) rfl ?_
    exact GotPost.no_ r w _ n HNS.out (D.out.bl.trans (RS9.out.below n (Nat.le_refl _))) _ rfl
  exact absurd ⟨hn1, by rw [HX.out.1]; exact hn2⟩ hnb
end Go.Proofs.YtcgbhcmgddgheaaDoor
namespace Go.Proofs.YtcgbhcmgddgheaaDoor
open Go Go.RowKit Go.BigFrame
set_option linter.unusedSimpArgs false
set_option linter.unusedVariables false
set_option maxRecDepth 100000
set_option maxHeartbeats 32000000 in
theorem docGet_vn_hi (f : Nat → BitVec 8) (len : Nat) (own : Int) (w : World) (hm : len ≤ 9223372036854775807) (ho : 0 ≤ own ∧ own ≤ 20) (hl1 : 5 ≤ len) (hF : 128 ≤ (f 0).toNat) (hF9 : 192 ≤ (f 0).toNat) (hV0 : numG (fun i => f (1 + i)) 4 = 0) (hnb : ¬ (nmR (len - 5) (f 5).toNat = 0 ∧ nmR (len - (5 + 1 + (f 5).toNat)) (f (5 + 1 + (f 5).toNat)).toNat = 0)) :
    Calls Tryd.prog 36 #[.string (strOf f len), .int .i64 own] w (GotPost (getP f len own) w) := by
  have hs := strOf_size f len
  have hl0 : len ≠ 0 := by omega
  have he := str_full (f := f) hl0
  have hx : ∀ w : World, _ := run_at_str f len 0 (by omega)
  rw [show ((0 : Nat) : Int) = 0 from rfl] at hx
  have hF2 := (f 0).isLt
  have hw : wrap64 (n8 (f 0)) = ((f 0).toNat : Int) := by rw [n8_nat]; unfold wrap64; omega
  have hFj : ¬ ((f 0).toNat : Int) < 128 := by omega
  obtain ⟨o0, o1⟩ := ho
  have k15 : ∀ w : World, _ := run_cut_str f 1 5 len (by omega) (by omega)
  rw [show 5 - 1 = 4 from rfl, show ((1 : Nat) : Int) = 1 from rfl, show ((5 : Nat) : Int) = 5 from rfl] at k15
  have NB := Lib.hid (fun (w' : World) => refNumber_any (fun i => f (1 + i)) 4 (by omega) w')
  have h5i : ¬ (len : Int) < 5 := by omega
  have h5j : 5 ≤ (len : Int) := by omega
  have k5 : ∀ w : World, _ := run_tail_str f 5 len (by omega)
  rw [show ((5 : Nat) : Int) = 5 from rfl] at k5
  obtain ⟨g, hg⟩ : ∃ g, getP f len own = g := ⟨_, rfl⟩
  rw [hg]
  rw [getP_long ⟨o0, o1⟩ hl0 (by omega) (.inr ⟨hl1, hV0⟩)] at hg
  have HG := Lib.hid hg
  have N1 := Lib.hid (fun (w' : World) => refName_any (fun i => f (5 + i)) (len - 5) (by omega) w')
  have HV := Lib.hid hV0
  rw [hV0, show ((0 : Nat) : Int) = 0 from rfl] at NB
  obtain ⟨F, hFF⟩ : ∃ F, (f 0).toNat = F := ⟨_, rfl⟩
  have HF := Lib.hid hFF
  rw [hFF] at hw hFj hF hF2 hF9
  have hFi : ¬ (F : Int) < 192 := by omega
  have hq : (F : Int).tdiv 16 = ((F / 16 : Nat) : Int) := by rw [Int.tdiv_eq_ediv_of_nonneg (by omega)]; omega
  have hr : ((F / 16 : Nat) : Int).tmod 4 = ((F / 16 % 4 : Nat) : Int) := by rw [Int.tmod_eq_emod_of_nonneg (by omega)]; omega
  obtain ⟨Q, hQ⟩ : ∃ Q, F / 16 = Q := ⟨_, rfl⟩
  obtain ⟨K, hK⟩ : ∃ K, Q % 4 = K := ⟨_, rfl⟩
  rw [hQ] at hq hr
  rw [hK] at hr
  have hQ9 : Q ≤ 15 := by omega
  have hK9 : K < 4 := by omega
  generalize strOf (fun i => f (1 + i)) 4 = t15 at *
  generalize strOf (fun i => f (5 + i)) (len - 5) = t5 at *
  generalize strOf f len = s at *
  clear hg hFF hQ hK hF hF2 hF9 hV0
  have q0 : ((w.alloc (.cells (hdC 0 0 ⟨#[]⟩ ⟨#[]⟩ ⟨#[]⟩ 0 0 0 false (.slice none 0 0)) 63)).alloc (.cells (hdC 0 0 ⟨#[]⟩ ⟨#[]⟩ ⟨#[]⟩ 0 0 0 false (.slice none 0 0)) 63)).heap[w.heap.size]? = some (.cells (hdC 0 0 ⟨#[]⟩ ⟨#[]⟩ ⟨#[]⟩ 0 0 0 false (.slice none 0 0)) 63 (0, 0)) := rows_alloc w [.cells (hdC 0 0 ⟨#[]⟩ ⟨#[]⟩ ⟨#[]⟩ 0 0 0 false (.slice none 0 0)) 63, .cells (hdC 0 0 ⟨#[]⟩ ⟨#[]⟩ ⟨#[]⟩ 0 0 0 false (.slice none 0 0)) 63] 0
  have q1 : ((w.alloc (.cells (hdC 0 0 ⟨#[]⟩ ⟨#[]⟩ ⟨#[]⟩ 0 0 0 false (.slice none 0 0)) 63)).alloc (.cells (hdC 0 0 ⟨#[]⟩ ⟨#[]⟩ ⟨#[]⟩ 0 0 0 false (.slice none 0 0)) 63)).heap[w.heap.size + 1]? = some (.cells (hdC 0 0 ⟨#[]⟩ ⟨#[]⟩ ⟨#[]⟩ 0 0 0 false (.slice none 0 0)) 63 (0, 0)) := rows_alloc w [.cells (hdC 0 0 ⟨#[]⟩ ⟨#[]⟩ ⟨#[]⟩ 0 0 0 false (.slice none 0 0)) 63, .cells (hdC 0 0 ⟨#[]⟩ ⟨#[]⟩ ⟨#[]⟩ 0 0 0 false (.slice none 0 0)) 63] 1
  have bel : Below w.heap.size w ((w.alloc (.cells (hdC 0 0 ⟨#[]⟩ ⟨#[]⟩ ⟨#[]⟩ 0 0 0 false (.slice none 0 0)) 63)).alloc (.cells (hdC 0 0 ⟨#[]⟩ ⟨#[]⟩ ⟨#[]⟩ 0 0 0 false (.slice none 0 0)) 63)) := ((Below.refl w.heap.size w).alloc (Nat.le_refl _) _).alloc (by simp) _
  have hs1 : (w.alloc (.cells (hdC 0 0 ⟨#[]⟩ ⟨#[]⟩ ⟨#[]⟩ 0 0 0 false (.slice none 0 0)) 63)).heap.size = w.heap.size + 1 := by simp
  have Q0 := Lib.hid q0
  have Q1 := Lib.hid q1
  have BEL := Lib.hid bel
  clear q0 q1 bel
  go_enter Tryd.func36, Tryd.ntmps36
  go_upto_region 2 with (first
    | (refine wpList_alloc_row (o := ⟨some 4, .alloc 63, _, _, _, _⟩) rfl 63 rfl _ refhd_zero ?_)
    | (refine wpList_alloc_row (o := ⟨some 8, .alloc 63, _, _, _, _⟩) rfl 63 rfl _ refhd_zero ?_
       simp only [hs1, Act.put, List.setIfInBounds_toArray, List.set_cons_succ, List.set_cons_zero])
    | (refine wpList_store_row (op := ⟨none, .store 63 _ _, _, _, _, _⟩) rfl 63 _ _ rfl (w.heap.size + 1) 63 _ (hdC 0 0 ⟨#[]⟩ ⟨#[]⟩ ⟨#[]⟩ 0 0 0 false (.slice none 0 0)) rfl rfl Q1.out rfl (by kernel_rfl) (hdC_one _ _ _ _ _ _ _ _ _) ?_
       intro w1 rs
       have D : Hid (DSt w w.heap.size w1) := Lib.hid ⟨rs.keep (by omega) Q0.out, rs.row, BEL.out.trans (rs.below _ (Nat.le_succ _))⟩
       clear rs)
    | fail)
  generalize hn : w.heap.size = n at *
  have HNS := Lib.hid hn
  clear hn Q0 Q1 BEL hs1
  go_wp2_with fail
  with_reducible refine (NB.out _).mono ?_
  rintro x w' ⟨rfl, rfl⟩
  go_upto_region 18 with (fail)
  go_wp2_with fail
  with_reducible refine (NB.out _).mono ?_
  rintro x w' ⟨rfl, rfl⟩
  go_upto_region 19 with (first
    | (refine wpList_alloc_row (o := ⟨some 11, .alloc 63, _, _, _, _⟩) rfl 63 rfl _ refhd_zero ?_)
    | (refine wpList_store_new (o := ⟨none, .store 63 _ _, _, _, _, _⟩) rfl 63 _ _ rfl (hdC 0 0 ⟨#[]⟩ ⟨#[]⟩ ⟨#[]⟩ 0 0 0 false (.slice none 0 0)) (hdC (K : Int) 0 ⟨#[]⟩ ⟨#[]⟩ ⟨#[]⟩ 0 0 0 false (.slice none 0 0)) _ rfl rfl rfl (by kernel_rfl) rfl (hdC_one _ _ _ _ _ _ _ _ _) ?_)
    | fail)
  have hst := HSt.made (k := (K : Int)) (v := 0) D.out rfl
  simp only [Act.put, List.setIfInBounds_toArray, List.set_cons_succ, List.set_cons_zero]
  generalize World.alloc _ _ = w2 at *
  generalize w1.heap.size = H at *
  have HS := Lib.hid hst
  clear hst NB k15 D
  go_wp2_with fail
  refine (N1.out w2).mono ?_
  rintro x w3 ⟨rfl, hb3⟩
  have H3 := Lib.hid (HS.out.later hb3)
  have D := Lib.hid (HS.out.later hb3).d
  clear hb3 HS N1 k5
  by_cases hn1 : nmR (len - 5) (f 5).toNat = 0
  rotate_left
  · rw [nmOut_bad rfl hn1]
    obtain ⟨r, hrr⟩ : ∃ r, nmR (len - 5) (f 5).toNat = r := ⟨_, rfl⟩
    have hg := HG.out
    rw [long_n1 hl1 hrr (by rw [← hrr]; exact hn1)] at hg
    subst hg
    rw [hrr] at hn1 ⊢
    have hrb : (r == 0) = false := beq_eq_false_iff_ne.2 hn1
    clear hrr HG HV HF hl1
    go_wp2_with (first
      | (refine wpList_load_row (o := ⟨some 92, .load 63 _, _, _, _, _⟩) rfl 63 _ rfl (n + 1) rfl _ _ (0, 0) _ D.out.nn Tryd.underlying63 rfl (by kernel_rfl) ?_)
      | (refine wpList_store_row (op := ⟨none, .store 63 _ _, _, _, _, _⟩) rfl 63 _ _ rfl n 63 _ (hdC 0 0 ⟨#[]⟩ ⟨#[]⟩ ⟨#[]⟩ 0 0 0 false (.slice none 0 0)) rfl rfl D.out.rs rfl (by kernel_rfl) (hdC_one _ _ _ _ _ _ _ _ _) ?_
         intro w9 rs
         have RS9 := Lib.hid rs
         clear rs)
      | fail)
    refine bodyPost_ret (results_hd rfl _ _ n 63 (hdC 0 0 ⟨#[]⟩ ⟨#[]⟩ ⟨#[]⟩ 0 0 0 false (.slice none 0 0)) (0, 0) _ rfl RS9.out.row Tryd.underlying63 ⟨_, rfl⟩ (by kernel_rfl)) rfl ?_
    exact GotPost.no_ r w _ n HNS.out (D.out.bl.trans (RS9.out.below n (Nat.le_refl _))) _ rfl
  rw [nmOut_ok hn1]
  have hp2l := (nm_ok hn1).2.2.2
  obtain ⟨p2, hp2⟩ : ∃ p2, 5 + 1 + (f 5).toNat = p2 := ⟨_, rfl⟩
  obtain ⟨X1, hX1⟩ : ∃ X1, strOf (fun i => f (5 + 1 + i)) (f 5).toNat = X1 := ⟨_, rfl⟩
  have N2 := Lib.hid (fun (w' : World) => refName_any (fun i => f (p2 + i)) (len - p2) (by omega) w')
  rw [hp2] at hp2l ⊢
  rw [hX1]
  generalize hT6 : strOf (fun i => f (p2 + i)) (len - p2) = t6 at N2 ⊢
  have HX := Lib.hid (And.intro hp2 hX1)
  clear hp2 hX1 hT6
  go_wp2_with fail
  refine (N2.out w3).mono ?_
  rintro x w4 ⟨rfl, hb4⟩
  have H4 := Lib.hid (H3.out.later hb4)
  have D := Lib.hid (H3.out.later hb4).d
  clear hb4 H3 N2
  by_cases hn2 : nmR (len - p2) (f p2).toNat = 0
  rotate_left
  · rw [nmOut_bad rfl hn2]
    obtain ⟨r, hrr⟩ : ∃ r, nmR (len - p2) (f p2).toNat = r := ⟨_, rfl⟩
    have hg := HG.out
    rw [long_n2 hl1 hn1 (r := r) (by rw [HX.out.1]; exact hrr) (by rw [← hrr]; exact hn2)] at hg
    subst hg
    rw [hrr] at hn2 ⊢
    have hrb : (r == 0) = false := beq_eq_false_iff_ne.2 hn2
    clear hrr HG HV HF hl1 hn1 HX
    go_wp2_with (first
      | (refine wpList_load_row (o := ⟨some 102, .load 63 _, _, _, _, _⟩) rfl 63 _ rfl (n + 1) rfl _ _ (0, 0) _ D.out.nn Tryd.underlying63 rfl (by kernel_rfl) ?_)
      | (refine wpList_store_row (op := ⟨none, .store 63 _ _, _, _, _, _⟩) rfl 63 _ _ rfl n 63 _ (hdC 0 0 ⟨#[]⟩ ⟨#[]⟩ ⟨#[]⟩ 0 0 0 false (.slice none 0 0)) rfl rfl D.out.rs rfl (by kernel_rfl) (hdC_one _ _ _ _ _ _ _ _ _) ?_
         intro w9 rs
         have RS9 := Lib.hid rs
         clear rs)
      | fail)
    refine bodyPost_ret (results_hd rfl _ _ n 63 (hdC 0 0 ⟨#[]⟩ ⟨#[]⟩ ⟨#[]⟩ 0 0 0 false (.slice none 0 0)) (0, 0) _ rfl RS9.out.row Tryd.underlying63 ⟨_, rfl⟩ (by kernel_rfl)) rfl ?_
    exact GotPost.no_ r w _ n HNS.out (D.out.bl.trans (RS9.out.below n (Nat.le_refl _))) _ rfl
  exact absurd ⟨hn1, by rw [HX.out.1]; exact hn2⟩ hnb
end Go.Proofs.YtcgbhcmgddgheaaDoor
