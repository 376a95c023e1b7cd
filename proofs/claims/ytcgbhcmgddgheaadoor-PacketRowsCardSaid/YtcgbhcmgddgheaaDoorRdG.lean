/-
  PACKET's Get, of all bytes.
-/
import Derived.Test.YtcgbhcmgddgheaaDoorRdF
namespace Go.Proofs.YtcgbhcmgddgheaaDoor
open Go Go.RowKit Go.BigFrame
set_option linter.unusedSimpArgs false
set_option linter.unusedVariables false
set_option maxRecDepth 100000
set_option maxHeartbeats 8000000 in
theorem get_packet (f : Nat → BitVec 8) (a : Option Addr) (len cap : Nat) (own : Int) (w : World) (hB : BytesIn w a len f) (hlc : len ≤ cap) (hcm : cap ≤ maxLen) :
    Calls Tryd.prog 37 #[.slice a len cap, .int .i64 own] w (GotPost (getP f len own) w) := by
  have hm : len ≤ 9223372036854775807 := by unfold maxLen at hcm; omega
  have WY := Lib.hid (fun (h : 0 ≤ own ∧ own ≤ 20) (w' : World) => within_yes own 20 h.1 h.2 w')
  have WN := Lib.hid (fun (h : ¬ (0 ≤ own ∧ own ≤ 20)) (w' : World) => within_no own 20 h w')
  by_cases hown : 0 ≤ own ∧ own ≤ 20
  rotate_left
  · rw [show getP f len own = Got.no 1 from by unfold getP; rw [if_pos hown]]
    go_enter Tryd.func37, Tryd.ntmps37
    go_upto_region 1 with (first
      | (refine wpList_alloc_row (o := ⟨some 4, .alloc 66, _, _, _, _⟩) rfl 66 rfl _ hd_zero ?_)
      | fail)
    have rr := heap_alloc_last w (.cells (hdC 0 0 ⟨#[]⟩ ⟨#[]⟩ ⟨#[]⟩ 0 0 0 false (.slice none 0 0)) 66)
    have bel := (Below.refl w.heap.size w).alloc (Nat.le_refl _) (.cells (hdC 0 0 ⟨#[]⟩ ⟨#[]⟩ ⟨#[]⟩ 0 0 0 false (.slice none 0 0)) 66)
    generalize World.alloc _ _ = w1 at *
    have RR := Lib.hid rr
    have BEL := Lib.hid bel
    clear rr bel
    go_wp2_with fail
    with_reducible refine (WN.out hown _).mono ?_
    rintro x w' ⟨rfl, rfl⟩
    go_wp2_with (first
      | (refine wpList_store_row (op := ⟨none, .store 66 _ _, _, _, _, _⟩) rfl 66 _ _ rfl w.heap.size 66 _ (hdC 0 0 ⟨#[]⟩ ⟨#[]⟩ ⟨#[]⟩ 0 0 0 false (.slice none 0 0)) rfl rfl RR.out rfl (by kernel_rfl) (hdC_one _ _ _ _ _ _ _ _ _) ?_
         intro w9 rs
         have RS9 := Lib.hid rs
         clear rs)
      | fail)
    refine bodyPost_ret (results_hd rfl _ _ w.heap.size 66 (hdC 0 0 ⟨#[]⟩ ⟨#[]⟩ ⟨#[]⟩ 0 0 0 false (.slice none 0 0)) (0, 0) _ rfl RS9.out.row Tryd.underlying66 ⟨_, rfl⟩ (by kernel_rfl)) rfl ?_
    exact GotPost.no_ 1 w _ _ rfl (BEL.out.trans (RS9.out.below _ (Nat.le_refl _))) _ rfl
  by_cases hl0 : len = 0
  · rw [show getP f len own = Got.no 3 from by unfold getP; rw [if_neg (by omega), if_pos hl0]]
    subst hl0
    go_enter Tryd.func37, Tryd.ntmps37
    go_upto_region 1 with (first
      | (refine wpList_alloc_row (o := ⟨some 4, .alloc 66, _, _, _, _⟩) rfl 66 rfl _ hd_zero ?_)
      | fail)
    have rr := heap_alloc_last w (.cells (hdC 0 0 ⟨#[]⟩ ⟨#[]⟩ ⟨#[]⟩ 0 0 0 false (.slice none 0 0)) 66)
    have bel := (Below.refl w.heap.size w).alloc (Nat.le_refl _) (.cells (hdC 0 0 ⟨#[]⟩ ⟨#[]⟩ ⟨#[]⟩ 0 0 0 false (.slice none 0 0)) 66)
    generalize World.alloc _ _ = w1 at *
    have RR := Lib.hid rr
    have BEL := Lib.hid bel
    clear rr bel
    go_wp2_with fail
    with_reducible refine (WY.out hown _).mono ?_
    rintro x w' ⟨rfl, rfl⟩
    go_wp2_with (first
      | (refine wpList_store_row (op := ⟨none, .store 66 _ _, _, _, _, _⟩) rfl 66 _ _ rfl w.heap.size 66 _ (hdC 0 0 ⟨#[]⟩ ⟨#[]⟩ ⟨#[]⟩ 0 0 0 false (.slice none 0 0)) rfl rfl RR.out rfl (by kernel_rfl) (hdC_one _ _ _ _ _ _ _ _ _) ?_
         intro w9 rs
         have RS9 := Lib.hid rs
         clear rs)
      | fail)
    refine bodyPost_ret (results_hd rfl _ _ w.heap.size 66 (hdC 0 0 ⟨#[]⟩ ⟨#[]⟩ ⟨#[]⟩ 0 0 0 false (.slice none 0 0)) (0, 0) _ rfl RS9.out.row Tryd.underlying66 ⟨_, rfl⟩ (by kernel_rfl)) rfl ?_
    exact GotPost.no_ 3 w _ _ rfl (BEL.out.trans (RS9.out.below _ (Nat.le_refl _))) _ rfl
  obtain ⟨b, off, rfl, hbs, hc⟩ : ∃ b off, a = some ⟨b, off, none⟩ ∧ b < w.heap.size ∧ ∀ i, i < len → w.cell? ⟨b, off + i, none⟩ = some (.int .u8 (n8 (f i))) := by
    rcases hB.2 with h0 | h0
    · omega
    · exact h0
  have CC := Lib.hid (fun (w' : World) (hb : Below w.heap.size w w') (i : Nat) (hi : i < len) => (hb.cell (p := ⟨b, off + i, none⟩) hbs).trans (hc i hi))
  have C0 := Lib.hid (fun (w' : World) (hb : Below w.heap.size w w') => (show w'.cell? ⟨b, off, none⟩ = some (.int .u8 (n8 (f 0))) from by have h := CC.out w' hb 0 (by omega); simpa using h))
  have SV := Lib.hid (fun (w' : World) (hb : Below w.heap.size w w') => saysVersions_any f b off len cap w' (by omega) (CC.out w' hb) hlc hcm)
  have hBl : ∀ w' : World, Below w.heap.size w w' → BytesIn w' (some ⟨b, off, none⟩) len f := fun w' hb => ⟨hB.1, .inr ⟨b, off, rfl, Nat.lt_of_lt_of_le hbs hb.size, CC.out w' hb⟩⟩
  have GS := Lib.hid (fun (w' : World) (hb : Below w.heap.size w w') => getShort_any f b off len cap own w' (by omega) (hBl w' hb) hlc hcm hown.1 hown.2)
  have GL := Lib.hid (fun (w' : World) (hb : Below w.heap.size w w') => getLong_any f b off len cap w' (by omega) (hBl w' hb) hlc hcm)
  clear hc hB hBl
  have hli : ¬ (len : Int) = 0 := by omega
  by_cases h64 : f 0 &&& 64#8 = 0#8
  · by_cases hsv : sv f len
    · rw [show getP f len own = long f len from by unfold getP; rw [if_neg (by omega), if_neg hl0, if_neg (fun h => h.2 hsv), if_neg hsv.1]]
      have b64 : (n8 (f 0 &&& 64#8) == 0) = true := by rw [bit_test, decide_eq_true h64]
      have b128 : (n8 (f 0 &&& 128#8) == 0) = false := by rw [bit_test, decide_eq_false hsv.1]
      rw [decide_eq_true hsv] at SV
      generalize long f len = g at GL ⊢
      clear h64 hsv
      go_enter Tryd.func37, Tryd.ntmps37
      go_upto_region 1 with (first
        | (refine wpList_alloc_row (o := ⟨some 4, .alloc 66, _, _, _, _⟩) rfl 66 rfl _ hd_zero ?_)
        | fail)
      have rr := heap_alloc_last w (.cells (hdC 0 0 ⟨#[]⟩ ⟨#[]⟩ ⟨#[]⟩ 0 0 0 false (.slice none 0 0)) 66)
      have bel := (Below.refl w.heap.size w).alloc (Nat.le_refl _) (.cells (hdC 0 0 ⟨#[]⟩ ⟨#[]⟩ ⟨#[]⟩ 0 0 0 false (.slice none 0 0)) 66)
      generalize World.alloc _ _ = w1 at *
      have RR := Lib.hid rr
      have BEL := Lib.hid bel
      clear rr bel
      have c0 := C0.out w1 BEL.out
      go_wp2_with fail
      with_reducible refine (WY.out hown _).mono ?_
      rintro x w' ⟨rfl, rfl⟩
      go_wp2_with fail
      with_reducible refine (SV.out _ BEL.out).mono ?_
      rintro x w' ⟨rfl, rfl⟩
      go_wp2_with fail
      with_reducible refine (GL.out _ BEL.out).mono ?_
      rintro x w2 ⟨aL, cL, rfl, hnew, hi, hb⟩
      have NW : Hid (∀ y, aL = some y → w.heap.size < y.block) := Lib.hid (fun y hy => by have h1 := hnew y hy; have h2 := lt_row RR.out; omega)
      have II := Lib.hid hi
      have HB2 := Lib.hid (BEL.out.trans (hb.mono BEL.out.size))
      have R2 := Lib.hid ((hb.block _ (lt_row RR.out)).trans RR.out)
      clear hi hb hnew
      unfold Got.header
      go_wp2_with (first
        | (refine wpList_store_row (op := ⟨none, .store 66 _ _, _, _, _, _⟩) rfl 66 _ _ rfl w.heap.size 66 _ (hdC g.k g.v g.D g.S g.T g.l 0 0 false (.slice aL g.G.length cL)) rfl rfl R2.out rfl (by kernel_rfl) (hdC_one _ _ _ _ _ _ _ _ _) ?_
           intro w9 rs
           have RS9 := Lib.hid rs
           clear rs)
        | fail)
      refine bodyPost_ret (results_hd rfl _ _ w.heap.size 66 (hdC g.k g.v g.D g.S g.T g.l 0 0 false (.slice aL g.G.length cL)) (0, 0) _ rfl RS9.out.row Tryd.underlying66 ⟨_, rfl⟩ (by kernel_rfl)) rfl ?_
      exact ⟨aL, cL, rfl, (fun y hy => Nat.le_of_lt (NW.out y hy)), II.out.chg RS9.out.chg (fun y hy => by have := NW.out y hy; omega), HB2.out.trans (RS9.out.below _ (Nat.le_refl _))⟩
    · rw [show getP f len own = Got.no 2 from by unfold getP; rw [if_neg (by omega), if_neg hl0, if_pos ⟨h64, hsv⟩]]
      have b64 : (n8 (f 0 &&& 64#8) == 0) = true := by rw [bit_test, decide_eq_true h64]
      rw [decide_eq_false hsv] at SV
      clear h64 hsv
      go_enter Tryd.func37, Tryd.ntmps37
      go_upto_region 1 with (first
        | (refine wpList_alloc_row (o := ⟨some 4, .alloc 66, _, _, _, _⟩) rfl 66 rfl _ hd_zero ?_)
        | fail)
      have rr := heap_alloc_last w (.cells (hdC 0 0 ⟨#[]⟩ ⟨#[]⟩ ⟨#[]⟩ 0 0 0 false (.slice none 0 0)) 66)
      have bel := (Below.refl w.heap.size w).alloc (Nat.le_refl _) (.cells (hdC 0 0 ⟨#[]⟩ ⟨#[]⟩ ⟨#[]⟩ 0 0 0 false (.slice none 0 0)) 66)
      generalize World.alloc _ _ = w1 at *
      have RR := Lib.hid rr
      have BEL := Lib.hid bel
      clear rr bel
      have c0 := C0.out w1 BEL.out
      go_wp2_with fail
      with_reducible refine (WY.out hown _).mono ?_
      rintro x w' ⟨rfl, rfl⟩
      go_wp2_with fail
      with_reducible refine (SV.out _ BEL.out).mono ?_
      rintro x w' ⟨rfl, rfl⟩
      go_wp2_with (first
        | (refine wpList_store_row (op := ⟨none, .store 66 _ _, _, _, _, _⟩) rfl 66 _ _ rfl w.heap.size 66 _ (hdC 0 0 ⟨#[]⟩ ⟨#[]⟩ ⟨#[]⟩ 0 0 0 false (.slice none 0 0)) rfl rfl RR.out rfl (by kernel_rfl) (hdC_one _ _ _ _ _ _ _ _ _) ?_
           intro w9 rs
           have RS9 := Lib.hid rs
           clear rs)
        | fail)
      refine bodyPost_ret (results_hd rfl _ _ w.heap.size 66 (hdC 0 0 ⟨#[]⟩ ⟨#[]⟩ ⟨#[]⟩ 0 0 0 false (.slice none 0 0)) (0, 0) _ rfl RS9.out.row Tryd.underlying66 ⟨_, rfl⟩ (by kernel_rfl)) rfl ?_
      exact GotPost.no_ 2 w _ _ rfl (BEL.out.trans (RS9.out.below _ (Nat.le_refl _))) _ rfl
  · have b64 : (n8 (f 0 &&& 64#8) == 0) = false := by rw [bit_test, decide_eq_false h64]
    by_cases h128 : f 0 &&& 128#8 = 0#8
    · have hg : getP f len own = (if (len : Int) < 1 + own then Got.no 3 else ⟨4, 0, strOf (fun i => f (1 + i)) own.toNat, ⟨#[]⟩, ⟨#[]⟩, 0, [], 1 + own.toNat, len, 0⟩) := by unfold getP; rw [if_neg (by omega), if_neg hl0, if_neg (fun h => h64 h.1), if_pos h128]
      rw [← hg] at GS
      clear hg
      generalize getP f len own = g at GS ⊢
      have b128 : (n8 (f 0 &&& 128#8) == 0) = true := by rw [bit_test, decide_eq_true h128]
      clear h64 h128
      go_enter Tryd.func37, Tryd.ntmps37
      go_upto_region 1 with (first
        | (refine wpList_alloc_row (o := ⟨some 4, .alloc 66, _, _, _, _⟩) rfl 66 rfl _ hd_zero ?_)
        | fail)
      have rr := heap_alloc_last w (.cells (hdC 0 0 ⟨#[]⟩ ⟨#[]⟩ ⟨#[]⟩ 0 0 0 false (.slice none 0 0)) 66)
      have bel := (Below.refl w.heap.size w).alloc (Nat.le_refl _) (.cells (hdC 0 0 ⟨#[]⟩ ⟨#[]⟩ ⟨#[]⟩ 0 0 0 false (.slice none 0 0)) 66)
      generalize World.alloc _ _ = w1 at *
      have RR := Lib.hid rr
      have BEL := Lib.hid bel
      clear rr bel
      have c0 := C0.out w1 BEL.out
      go_wp2_with fail
      with_reducible refine (WY.out hown _).mono ?_
      rintro x w' ⟨rfl, rfl⟩
      go_wp2_with fail
      with_reducible refine (GS.out _ BEL.out).mono ?_
      rintro x w2 ⟨aL, cL, rfl, hnew, hi, hb⟩
      have NW : Hid (∀ y, aL = some y → w.heap.size < y.block) := Lib.hid (fun y hy => by have h1 := hnew y hy; have h2 := lt_row RR.out; omega)
      have II := Lib.hid hi
      have HB2 := Lib.hid (BEL.out.trans (hb.mono BEL.out.size))
      have R2 := Lib.hid ((hb.block _ (lt_row RR.out)).trans RR.out)
      clear hi hb hnew
      unfold Got.header
      go_wp2_with (first
        | (refine wpList_store_row (op := ⟨none, .store 66 _ _, _, _, _, _⟩) rfl 66 _ _ rfl w.heap.size 66 _ (hdC g.k g.v g.D g.S g.T g.l 0 0 false (.slice aL g.G.length cL)) rfl rfl R2.out rfl (by kernel_rfl) (hdC_one _ _ _ _ _ _ _ _ _) ?_
           intro w9 rs
           have RS9 := Lib.hid rs
           clear rs)
        | fail)
      refine bodyPost_ret (results_hd rfl _ _ w.heap.size 66 (hdC g.k g.v g.D g.S g.T g.l 0 0 false (.slice aL g.G.length cL)) (0, 0) _ rfl RS9.out.row Tryd.underlying66 ⟨_, rfl⟩ (by kernel_rfl)) rfl ?_
      exact ⟨aL, cL, rfl, (fun y hy => Nat.le_of_lt (NW.out y hy)), II.out.chg RS9.out.chg (fun y hy => by have := NW.out y hy; omega), HB2.out.trans (RS9.out.below _ (Nat.le_refl _))⟩
    · rw [show getP f len own = long f len from by unfold getP; rw [if_neg (by omega), if_neg hl0, if_neg (fun h => h64 h.1), if_neg h128]]
      have b128 : (n8 (f 0 &&& 128#8) == 0) = false := by rw [bit_test, decide_eq_false h128]
      generalize long f len = g at GL ⊢
      clear h64 h128
      go_enter Tryd.func37, Tryd.ntmps37
      go_upto_region 1 with (first
        | (refine wpList_alloc_row (o := ⟨some 4, .alloc 66, _, _, _, _⟩) rfl 66 rfl _ hd_zero ?_)
        | fail)
      have rr := heap_alloc_last w (.cells (hdC 0 0 ⟨#[]⟩ ⟨#[]⟩ ⟨#[]⟩ 0 0 0 false (.slice none 0 0)) 66)
      have bel := (Below.refl w.heap.size w).alloc (Nat.le_refl _) (.cells (hdC 0 0 ⟨#[]⟩ ⟨#[]⟩ ⟨#[]⟩ 0 0 0 false (.slice none 0 0)) 66)
      generalize World.alloc _ _ = w1 at *
      have RR := Lib.hid rr
      have BEL := Lib.hid bel
      clear rr bel
      have c0 := C0.out w1 BEL.out
      go_wp2_with fail
      with_reducible refine (WY.out hown _).mono ?_
      rintro x w' ⟨rfl, rfl⟩
      go_wp2_with fail
      with_reducible refine (GL.out _ BEL.out).mono ?_
      rintro x w2 ⟨aL, cL, rfl, hnew, hi, hb⟩
      have NW : Hid (∀ y, aL = some y → w.heap.size < y.block) := Lib.hid (fun y hy => by have h1 := hnew y hy; have h2 := lt_row RR.out; omega)
      have II := Lib.hid hi
      have HB2 := Lib.hid (BEL.out.trans (hb.mono BEL.out.size))
      have R2 := Lib.hid ((hb.block _ (lt_row RR.out)).trans RR.out)
      clear hi hb hnew
      unfold Got.header
      go_wp2_with (first
        | (refine wpList_store_row (op := ⟨none, .store 66 _ _, _, _, _, _⟩) rfl 66 _ _ rfl w.heap.size 66 _ (hdC g.k g.v g.D g.S g.T g.l 0 0 false (.slice aL g.G.length cL)) rfl rfl R2.out rfl (by kernel_rfl) (hdC_one _ _ _ _ _ _ _ _ _) ?_
           intro w9 rs
           have RS9 := Lib.hid rs
           clear rs)
        | fail)
      refine bodyPost_ret (results_hd rfl _ _ w.heap.size 66 (hdC g.k g.v g.D g.S g.T g.l 0 0 false (.slice aL g.G.length cL)) (0, 0) _ rfl RS9.out.row Tryd.underlying66 ⟨_, rfl⟩ (by kernel_rfl)) rfl ?_
      exact ⟨aL, cL, rfl, (fun y hy => Nat.le_of_lt (NW.out y hy)), II.out.chg RS9.out.chg (fun y hy => by have := NW.out y hy; omega), HB2.out.trans (RS9.out.below _ (Nat.le_refl _))⟩
end Go.Proofs.YtcgbhcmgddgheaaDoor
