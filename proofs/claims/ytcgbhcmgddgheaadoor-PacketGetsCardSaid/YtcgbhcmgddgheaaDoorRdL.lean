/-
  THE DOCUMENT's Get of long headers: what ends early.
-/
import Derived.Test.YtcgbhcmgddgheaaDoorRdZa
namespace Go.Proofs.YtcgbhcmgddgheaaDoor
open Go Go.RowKit Go.BigFrame
set_option linter.unusedSimpArgs false
set_option linter.unusedVariables false
set_option maxRecDepth 100000
set_option maxHeartbeats 16000000 in
theorem docGet_few (f : Nat → BitVec 8) (len : Nat) (own : Int) (w : World) (hm : len ≤ 9223372036854775807) (ho : 0 ≤ own ∧ own ≤ 20) (hl1 : 1 ≤ len) (hF : 128 ≤ (f 0).toNat) (h5 : len < 5) :
    Calls Tryd.prog 36 #[.string (strOf f len), .int .i64 own] w (GotPost (getP f len own) w) := by
  have hs := strOf_size f len
  have hl0 : len ≠ 0 := by omega
  have he := str_full (f := f) hl0
  have hx : ∀ w : World, _ := run_at_str f len 0 (by omega)
  rw [show ((0 : Nat) : Int) = 0 from rfl] at hx
  have hF2 := (f 0).isLt
  have hw : wrap64 (n8 (f 0)) = ((f 0).toNat : Int) := by rw [n8_nat]; unfold wrap64; omega
  have hFj : ¬ ((f 0).toNat : Int) < 128 := by omega
  obtain ⟨o0, o1⟩ := ho
  have h5i : (len : Int) < 5 := by omega
  by_cases h192 : (f 0).toNat < 192
  · rw [show getP f len own = Got.no 2 from by
      unfold getP
      rw [if_neg (by omega), if_neg hl0, if_pos ⟨(bit64 _).2 (.inr ⟨hF, h192⟩), fun h => by rw [sv_iff] at h; omega⟩]]
    have hFi : ((f 0).toNat : Int) < 192 := by omega
    generalize (f 0).toNat = F at *
    generalize strOf f len = s at *
    clear hF hF2 h192 h5 hl1
    have q0 : ((w.alloc (.cells (hdC 0 0 ⟨#[]⟩ ⟨#[]⟩ ⟨#[]⟩ 0 0 0 false (.slice none 0 0)) 63)).alloc (.cells (hdC 0 0 ⟨#[]⟩ ⟨#[]⟩ ⟨#[]⟩ 0 0 0 false (.slice none 0 0)) 63)).heap[w.heap.size]? = some (.cells (hdC 0 0 ⟨#[]⟩ ⟨#[]⟩ ⟨#[]⟩ 0 0 0 false (.slice none 0 0)) 63 (0, 0)) := rows_alloc w [.cells (hdC 0 0 ⟨#[]⟩ ⟨#[]⟩ ⟨#[]⟩ 0 0 0 false (.slice none 0 0)) 63, .cells (hdC 0 0 ⟨#[]⟩ ⟨#[]⟩ ⟨#[]⟩ 0 0 0 false (.slice none 0 0)) 63] 0
    have q1 : ((w.alloc (.cells (hdC 0 0 ⟨#[]⟩ ⟨#[]⟩ ⟨#[]⟩ 0 0 0 false (.slice none 0 0)) 63)).alloc (.cells (hdC 0 0 ⟨#[]⟩ ⟨#[]⟩ ⟨#[]⟩ 0 0 0 false (.slice none 0 0)) 63)).heap[w.heap.size + 1]? = some (.cells (hdC 0 0 ⟨#[]⟩ ⟨#[]⟩ ⟨#[]⟩ 0 0 0 false (.slice none 0 0)) 63 (0, 0)) := rows_alloc w [.cells (hdC 0 0 ⟨#[]⟩ ⟨#[]⟩ ⟨#[]⟩ 0 0 0 false (.slice none 0 0)) 63, .cells (hdC 0 0 ⟨#[]⟩ ⟨#[]⟩ ⟨#[]⟩ 0 0 0 false (.slice none 0 0)) 63] 1
    have bel : Below w.heap.size w ((w.alloc (.cells (hdC 0 0 ⟨#[]⟩ ⟨#[]⟩ ⟨#[]⟩ 0 0 0 false (.slice none 0 0)) 63)).alloc (.cells (hdC 0 0 ⟨#[]⟩ ⟨#[]⟩ ⟨#[]⟩ 0 0 0 false (.slice none 0 0)) 63)) := ((Below.refl w.heap.size w).alloc (Nat.le_refl _) _).alloc (by simp) _
    have hs1 : (w.alloc (.cells (hdC 0 0 ⟨#[]⟩ ⟨#[]⟩ ⟨#[]⟩ 0 0 0 false (.slice none 0 0)) 63)).heap.size = w.heap.size + 1 := by simp
    have Q0 := Lib.hid q0
    have Q1 := Lib.hid q1
    have BEL := Lib.hid bel
    clear q0 q1 bel
    go_enter Tryd.func36, Tryd.ntmps36
    go_upto_region 2 with (first
      | (refine wpList_alloc_row (o := ⟨some 4, .alloc 63, _, _, _, _⟩) rfl 63 rfl _ refhd_zero ?_)
      | (refine wpList_alloc_row (o := ⟨some 8, .alloc 63, _, _, _, _⟩) rfl 63 rfl _ refhd_zero ?_
         simp only [hs1, Act.put, List.setIfInBounds_toArray, List.set_cons_succ, List.set_cons_zero])
      | (refine wpList_store_row (op := ⟨none, .store 63 _ _, _, _, _, _⟩) rfl 63 _ _ rfl (w.heap.size + 1) 63 _ (hdC 0 0 ⟨#[]⟩ ⟨#[]⟩ ⟨#[]⟩ 0 0 0 false (.slice none 0 0)) rfl rfl Q1.out rfl (by kernel_rfl) (hdC_one _ _ _ _ _ _ _ _ _) ?_
         intro w1 rs
         have D : Hid (DSt w w.heap.size w1) := Lib.hid ⟨rs.keep (by omega) Q0.out, rs.row, BEL.out.trans (rs.below _ (Nat.le_succ _))⟩
         clear rs)
      | fail)
    generalize hn : w.heap.size = n at *
    have HNS := Lib.hid hn
    clear hn Q0 Q1 BEL hs1
    go_wp2_with (first
      | (refine wpList_load_row (o := ⟨some 71, .load 63 _, _, _, _, _⟩) rfl 63 _ rfl (n + 1) rfl _ _ (0, 0) _ D.out.nn Tryd.underlying63 rfl (by kernel_rfl) ?_)
      | (refine wpList_store_row (op := ⟨none, .store 63 _ _, _, _, _, _⟩) rfl 63 _ _ rfl n 63 _ (hdC 0 0 ⟨#[]⟩ ⟨#[]⟩ ⟨#[]⟩ 0 0 0 false (.slice none 0 0)) rfl rfl D.out.rs rfl (by kernel_rfl) (hdC_one _ _ _ _ _ _ _ _ _) ?_
         intro w9 rs
         have RS9 := Lib.hid rs
         clear rs)
      | fail)
    refine bodyPost_ret (results_hd rfl _ _ n 63 (hdC 0 0 ⟨#[]⟩ ⟨#[]⟩ ⟨#[]⟩ 0 0 0 false (.slice none 0 0)) (0, 0) _ rfl RS9.out.row Tryd.underlying63 ⟨_, rfl⟩ (by kernel_rfl)) rfl ?_
    exact GotPost.no_ 2 w _ n HNS.out (D.out.bl.trans (RS9.out.below n (Nat.le_refl _))) _ rfl
  · rw [getP_long ⟨o0, o1⟩ hl0 hF (.inl (by omega)), long_few h5]
    have hFi : ¬ ((f 0).toNat : Int) < 192 := by omega
    generalize (f 0).toNat = F at *
    generalize strOf f len = s at *
    clear hF hF2 h192 h5 hl1
    have q0 : ((w.alloc (.cells (hdC 0 0 ⟨#[]⟩ ⟨#[]⟩ ⟨#[]⟩ 0 0 0 false (.slice none 0 0)) 63)).alloc (.cells (hdC 0 0 ⟨#[]⟩ ⟨#[]⟩ ⟨#[]⟩ 0 0 0 false (.slice none 0 0)) 63)).heap[w.heap.size]? = some (.cells (hdC 0 0 ⟨#[]⟩ ⟨#[]⟩ ⟨#[]⟩ 0 0 0 false (.slice none 0 0)) 63 (0, 0)) := rows_alloc w [.cells (hdC 0 0 ⟨#[]⟩ ⟨#[]⟩ ⟨#[]⟩ 0 0 0 false (.slice none 0 0)) 63, .cells (hdC 0 0 ⟨#[]⟩ ⟨#[]⟩ ⟨#[]⟩ 0 0 0 false (.slice none 0 0)) 63] 0
    have q1 : ((w.alloc (.cells (hdC 0 0 ⟨#[]⟩ ⟨#[]⟩ ⟨#[]⟩ 0 0 0 false (.slice none 0 0)) 63)).alloc (.cells (hdC 0 0 ⟨#[]⟩ ⟨#[]⟩ ⟨#[]⟩ 0 0 0 false (.slice none 0 0)) 63)).heap[w.heap.size + 1]? = some (.cells (hdC 0 0 ⟨#[]⟩ ⟨#[]⟩ ⟨#[]⟩ 0 0 0 false (.slice none 0 0)) 63 (0, 0)) := rows_alloc w [.cells (hdC 0 0 ⟨#[]⟩ ⟨#[]⟩ ⟨#[]⟩ 0 0 0 false (.slice none 0 0)) 63, .cells (hdC 0 0 ⟨#[]⟩ ⟨#[]⟩ ⟨#[]⟩ 0 0 0 false (.slice none 0 0)) 63] 1
    have bel : Below w.heap.size w ((w.alloc (.cells (hdC 0 0 ⟨#[]⟩ ⟨#[]⟩ ⟨#[]⟩ 0 0 0 false (.slice none 0 0)) 63)).alloc (.cells (hdC 0 0 ⟨#[]⟩ ⟨#[]⟩ ⟨#[]⟩ 0 0 0 false (.slice none 0 0)) 63)) := ((Below.refl w.heap.size w).alloc (Nat.le_refl _) _).alloc (by simp) _
    have hs1 : (w.alloc (.cells (hdC 0 0 ⟨#[]⟩ ⟨#[]⟩ ⟨#[]⟩ 0 0 0 false (.slice none 0 0)) 63)).heap.size = w.heap.size + 1 := by simp
    have Q0 := Lib.hid q0
    have Q1 := Lib.hid q1
    have BEL := Lib.hid bel
    clear q0 q1 bel
    go_enter Tryd.func36, Tryd.ntmps36
    go_upto_region 2 with (first
      | (refine wpList_alloc_row (o := ⟨some 4, .alloc 63, _, _, _, _⟩) rfl 63 rfl _ refhd_zero ?_)
      | (refine wpList_alloc_row (o := ⟨some 8, .alloc 63, _, _, _, _⟩) rfl 63 rfl _ refhd_zero ?_
         simp only [hs1, Act.put, List.setIfInBounds_toArray, List.set_cons_succ, List.set_cons_zero])
      | (refine wpList_store_row (op := ⟨none, .store 63 _ _, _, _, _, _⟩) rfl 63 _ _ rfl (w.heap.size + 1) 63 _ (hdC 0 0 ⟨#[]⟩ ⟨#[]⟩ ⟨#[]⟩ 0 0 0 false (.slice none 0 0)) rfl rfl Q1.out rfl (by kernel_rfl) (hdC_one _ _ _ _ _ _ _ _ _) ?_
         intro w1 rs
         have D : Hid (DSt w w.heap.size w1) := Lib.hid ⟨rs.keep (by omega) Q0.out, rs.row, BEL.out.trans (rs.below _ (Nat.le_succ _))⟩
         clear rs)
      | fail)
    generalize hn : w.heap.size = n at *
    have HNS := Lib.hid hn
    clear hn Q0 Q1 BEL hs1
    go_wp2_with (first
      | (refine wpList_load_row (o := ⟨some 75, .load 63 _, _, _, _, _⟩) rfl 63 _ rfl (n + 1) rfl _ _ (0, 0) _ D.out.nn Tryd.underlying63 rfl (by kernel_rfl) ?_)
      | (refine wpList_store_row (op := ⟨none, .store 63 _ _, _, _, _, _⟩) rfl 63 _ _ rfl n 63 _ (hdC 0 0 ⟨#[]⟩ ⟨#[]⟩ ⟨#[]⟩ 0 0 0 false (.slice none 0 0)) rfl rfl D.out.rs rfl (by kernel_rfl) (hdC_one _ _ _ _ _ _ _ _ _) ?_
         intro w9 rs
         have RS9 := Lib.hid rs
         clear rs)
      | fail)
    refine bodyPost_ret (results_hd rfl _ _ n 63 (hdC 0 0 ⟨#[]⟩ ⟨#[]⟩ ⟨#[]⟩ 0 0 0 false (.slice none 0 0)) (0, 0) _ rfl RS9.out.row Tryd.underlying63 ⟨_, rfl⟩ (by kernel_rfl)) rfl ?_
    exact GotPost.no_ 3 w _ n HNS.out (D.out.bl.trans (RS9.out.below n (Nat.le_refl _))) _ rfl
set_option maxHeartbeats 16000000 in
theorem docGet_form (f : Nat → BitVec 8) (len : Nat) (own : Int) (w : World) (hm : len ≤ 9223372036854775807) (ho : 0 ≤ own ∧ own ≤ 20) (hl1 : 5 ≤ len) (hF : 128 ≤ (f 0).toNat) (h192 : (f 0).toNat < 192) (hV : ¬ numG (fun i => f (1 + i)) 4 = 0) :
    Calls Tryd.prog 36 #[.string (strOf f len), .int .i64 own] w (GotPost (getP f len own) w) := by
  have hs := strOf_size f len
  have hl0 : len ≠ 0 := by omega
  have he := str_full (f := f) hl0
  have hx : ∀ w : World, _ := run_at_str f len 0 (by omega)
  rw [show ((0 : Nat) : Int) = 0 from rfl] at hx
  have hF2 := (f 0).isLt
  have hw : wrap64 (n8 (f 0)) = ((f 0).toNat : Int) := by rw [n8_nat]; unfold wrap64; omega
  have hFj : ¬ ((f 0).toNat : Int) < 128 := by omega
  obtain ⟨o0, o1⟩ := ho
  have k15 : ∀ w : World, _ := run_cut_str f 1 5 len (by omega) (by omega)
  rw [show 5 - 1 = 4 from rfl, show ((1 : Nat) : Int) = 1 from rfl, show ((5 : Nat) : Int) = 5 from rfl] at k15
  have NB := Lib.hid (fun (w' : World) => refNumber_any (fun i => f (1 + i)) 4 (by omega) w')
  have h5i : ¬ (len : Int) < 5 := by omega
  have h5j : 5 ≤ (len : Int) := by omega
  rw [show getP f len own = Got.no 2 from by
    unfold getP
    rw [if_neg (by omega), if_neg hl0, if_pos ⟨(bit64 _).2 (.inr ⟨hF, h192⟩), fun h => by rw [sv_iff] at h; omega⟩]]
  have hFi : ((f 0).toNat : Int) < 192 := by omega
  generalize numG (fun i => f (1 + i)) 4 = V at NB hV
  generalize strOf (fun i => f (1 + i)) 4 = t15 at *
  generalize (f 0).toNat = F at *
  generalize strOf f len = s at *
  have hVb : ((V : Int) == 0) = false := beq_eq_false_iff_ne.2 (by omega)
  clear hF hF2 h192 hl1 hV
  have q0 : ((w.alloc (.cells (hdC 0 0 ⟨#[]⟩ ⟨#[]⟩ ⟨#[]⟩ 0 0 0 false (.slice none 0 0)) 63)).alloc (.cells (hdC 0 0 ⟨#[]⟩ ⟨#[]⟩ ⟨#[]⟩ 0 0 0 false (.slice none 0 0)) 63)).heap[w.heap.size]? = some (.cells (hdC 0 0 ⟨#[]⟩ ⟨#[]⟩ ⟨#[]⟩ 0 0 0 false (.slice none 0 0)) 63 (0, 0)) := rows_alloc w [.cells (hdC 0 0 ⟨#[]⟩ ⟨#[]⟩ ⟨#[]⟩ 0 0 0 false (.slice none 0 0)) 63, .cells (hdC 0 0 ⟨#[]⟩ ⟨#[]⟩ ⟨#[]⟩ 0 0 0 false (.slice none 0 0)) 63] 0
  have q1 : ((w.alloc (.cells (hdC 0 0 ⟨#[]⟩ ⟨#[]⟩ ⟨#[]⟩ 0 0 0 false (.slice none 0 0)) 63)).alloc (.cells (hdC 0 0 ⟨#[]⟩ ⟨#[]⟩ ⟨#[]⟩ 0 0 0 false (.slice none 0 0)) 63)).heap[w.heap.size + 1]? = some (.cells (hdC 0 0 ⟨#[]⟩ ⟨#[]⟩ ⟨#[]⟩ 0 0 0 false (.slice none 0 0)) 63 (0, 0)) := rows_alloc w [.cells (hdC 0 0 ⟨#[]⟩ ⟨#[]⟩ ⟨#[]⟩ 0 0 0 false (.slice none 0 0)) 63, .cells (hdC 0 0 ⟨#[]⟩ ⟨#[]⟩ ⟨#[]⟩ 0 0 0 false (.slice none 0 0)) 63] 1
  have bel : Below w.heap.size w ((w.alloc (.cells (hdC 0 0 ⟨#[]⟩ ⟨#[]⟩ ⟨#[]⟩ 0 0 0 false (.slice none 0 0)) 63)).alloc (.cells (hdC 0 0 ⟨#[]⟩ ⟨#[]⟩ ⟨#[]⟩ 0 0 0 false (.slice none 0 0)) 63)) := ((Below.refl w.heap.size w).alloc (Nat.le_refl _) _).alloc (by simp) _
  have hs1 : (w.alloc (.cells (hdC 0 0 ⟨#[]⟩ ⟨#[]⟩ ⟨#[]⟩ 0 0 0 false (.slice none 0 0)) 63)).heap.size = w.heap.size + 1 := by simp
  have Q0 := Lib.hid q0
  have Q1 := Lib.hid q1
  have BEL := Lib.hid bel
  clear q0 q1 bel
  go_enter Tryd.func36, Tryd.ntmps36
  go_upto_region 2 with (first
    | (refine wpList_alloc_row (o := ⟨some 4, .alloc 63, _, _, _, _⟩) rfl 63 rfl _ refhd_zero ?_)
    | (refine wpList_alloc_row (o := ⟨some 8, .alloc 63, _, _, _, _⟩) rfl 63 rfl _ refhd_zero ?_
       simp only [hs1, Act.put, List.setIfInBounds_toArray, List.set_cons_succ, List.set_cons_zero])
    | (refine wpList_store_row (op := ⟨none, .store 63 _ _, _, _, _, _⟩) rfl 63 _ _ rfl (w.heap.size + 1) 63 _ (hdC 0 0 ⟨#[]⟩ ⟨#[]⟩ ⟨#[]⟩ 0 0 0 false (.slice none 0 0)) rfl rfl Q1.out rfl (by kernel_rfl) (hdC_one _ _ _ _ _ _ _ _ _) ?_
       intro w1 rs
       have D : Hid (DSt w w.heap.size w1) := Lib.hid ⟨rs.keep (by omega) Q0.out, rs.row, BEL.out.trans (rs.below _ (Nat.le_succ _))⟩
       clear rs)
    | fail)
  generalize hn : w.heap.size = n at *
  have HNS := Lib.hid hn
  clear hn Q0 Q1 BEL hs1
  go_wp2_with fail
  with_reducible refine (NB.out _).mono ?_
  rintro x w' ⟨rfl, rfl⟩
  go_wp2_with (first
    | (refine wpList_load_row (o := ⟨some 71, .load 63 _, _, _, _, _⟩) rfl 63 _ rfl (n + 1) rfl _ _ (0, 0) _ D.out.nn Tryd.underlying63 rfl (by kernel_rfl) ?_)
    | (refine wpList_store_row (op := ⟨none, .store 63 _ _, _, _, _, _⟩) rfl 63 _ _ rfl n 63 _ (hdC 0 0 ⟨#[]⟩ ⟨#[]⟩ ⟨#[]⟩ 0 0 0 false (.slice none 0 0)) rfl rfl D.out.rs rfl (by kernel_rfl) (hdC_one _ _ _ _ _ _ _ _ _) ?_
       intro w9 rs
       have RS9 := Lib.hid rs
       clear rs)
    | fail)
  refine bodyPost_ret (results_hd rfl _ _ n 63 (hdC 0 0 ⟨#[]⟩ ⟨#[]⟩ ⟨#[]⟩ 0 0 0 false (.slice none 0 0)) (0, 0) _ rfl RS9.out.row Tryd.underlying63 ⟨_, rfl⟩ (by kernel_rfl)) rfl ?_
  exact GotPost.no_ 2 w _ n HNS.out (D.out.bl.trans (RS9.out.below n (Nat.le_refl _))) _ rfl
end Go.Proofs.YtcgbhcmgddgheaaDoor
