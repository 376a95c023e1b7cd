/-
  name: the document's Get.
-/
import Derived.Test.YtddpfbeclmgndaaDoorNmS
namespace Go.Proofs.YtddpfbeclmgndaaDoor
open Go Go.RowKit Go.BigFrame
set_option linter.unusedSimpArgs false
set_option linter.unusedVariables false
theorem pst_next {f : Nat → BitVec 8} {n a i : Nat} (h : pst f n a i = (a + i, 0)) : pst f n a (i + 1) = if n ≤ a + i then (a + i, 3) else if okc (lowc (f (a + i))) = false then (a + i + 1, 14) else (a + i + 1, 0) := by
  rw [pst, h]
  unfold nx
  dsimp only
  rw [if_neg (by simp)]
  by_cases hp : n ≤ a + i
  · rw [if_pos hp, if_pos hp]
    simp
  · rw [if_neg hp, if_neg hp]
    dsimp only
    by_cases hc : okc (lowc (f (a + i))) = false
    · rw [if_pos hc, if_pos ⟨rfl, hc⟩]
    · rw [if_neg hc, if_neg (fun h => hc h.2)]
theorem ptx_next {f : Nat → BitVec 8} {n a i : Nat} (h : pst f n a i = (a + i, 0)) (hp : a + i < n) : ptx f n a (i + 1) = ptx f n a i ++ [lowc (f (a + i))] := by
  rw [ptx, h]
  unfold nx
  rw [if_neg (by simp), if_neg (by omega)]
theorem pst_stick {f : Nat → BitVec 8} {n a i e : Nat} (h : (pst f n a i).2 = e) (he : e ≠ 0) : ∀ j, (pst f n a (i + j)).2 = e
  | 0 => h
  | j + 1 => by
    have ih := pst_stick h he j
    rw [← Nat.add_assoc, pst]
    unfold nx
    rw [ih, if_pos he]
    dsimp only
    rw [if_neg (fun hh => he hh.1)]
theorem pst_err {f : Nat → BitVec 8} {n a i k e : Nat} (h : (pst f n a i).2 = e) (he : e ≠ 0) (hi : i ≤ k) : (pst f n a k).2 = e := by
  obtain ⟨j, rfl⟩ : ∃ j, k = i + j := ⟨k - i, by omega⟩
  exact pst_stick h he j
theorem conv_one (C : BitVec 8) (wq : World) : (convert 29 9 (.slice (some ⟨wq.heap.size, 0, none⟩) 1 1)).run Tryd.prog (wq.alloc (.cells #[.int .u8 (n8 C)] 5)) = .ok (.string (sL [C])) (wq.alloc (.cells #[.int .u8 (n8 C)] 5)) := by
  have h := conv_str (fun _ => C) wq.heap.size 0 1 1 (wq.alloc (.cells #[.int .u8 (n8 C)] 5)) (fun i hi => by
    obtain rfl : i = 0 := by omega
    rw [cell_of_row _ _ _ _ _ _ (heap_alloc_last wq _)]
    rfl)
  exact h
/-- The document's end: -1 until it is known. -/
def endI (d : Nat) : Int := if d = 0 then -1 else (d : Int)
theorem run_stop {f : Nat → BitVec 8} {n g p l d : Nat} {T : List (BitVec 8)} {R : Nat × Nat × List (BitVec 8)} (h : runG f n g p l d T = R) (hg : 0 < g) {s : Nat × Nat × Nat × List (BitVec 8) × Bool × Nat} (hs : stepS f n p l d T = s) (hn : ¬ (s.2.2.2.2.1 = false ∧ s.2.2.2.2.2 = 0)) : R = outG s := by
  obtain ⟨k, rfl⟩ : ∃ k, g = k + 1 := ⟨g - 1, by omega⟩
  rw [runG, hs, if_neg hn] at h
  exact h.symm
theorem run_on {f : Nat → BitVec 8} {n k p l d : Nat} {T : List (BitVec 8)} {R : Nat × Nat × List (BitVec 8)} (h : runG f n (k + 1) p l d T = R) {p' l' d' : Nat} {T' : List (BitVec 8)} (hs : stepS f n p l d T = (p', l', d', T', false, 0)) : runG f n k p' l' d' T' = R := by
  rw [runG, hs, if_pos ⟨rfl, rfl⟩] at h
  exact h
set_option maxHeartbeats 8000000 in
set_option maxRecDepth 100000 in
theorem docGet_ok (n : Nat) (f : Nat → BitVec 8) (p0 : Nat) (w : World) (hn : n ≤ 100000) (hp : p0 ≤ n) :
    Calls Tryd.prog 18 #[.string (strOf f n), .int .i64 (p0 : Int)] w fun e w' => e = .returned (.tuple #[.string (sL (getF f n p0).2.2), .int .i64 ((getF f n p0).2.1 : Int), .int .i64 ((getF f n p0).1 : Int)]) ∧ Below w.heap.size w w' := by
  have hp1 : ¬ (p0 : Int) < 0 := by omega
  have hp2 : ¬ (n : Int) < (p0 : Int) := by omega
  have hz := strOf_size f n
  have IX := Lib.hid (fun (i : Nat) (hi : i < n) => run_at_str f n i hi)
  obtain ⟨S, hS⟩ : ∃ S, strOf f n = S := ⟨_, rfl⟩
  rw [hS] at hz IX ⊢
  clear hS
  obtain ⟨R, hR⟩ : ∃ R, getF f n p0 = R := ⟨_, rfl⟩
  rw [hR]
  have HR : Hid (runG f n (meas n p0 [] + 1) p0 p0 0 [] = R) := hR
  obtain ⟨re, rd, rt⟩ := R
  dsimp only
  clear hR
  go_enter Tryd.func18, Tryd.ntmps18
  go_upto_region 4 with fail
  go_loopg [1, 7, 8, 9] (meas n p0 [] + 1) (fun g s1 s7 s8 s9 wr => ∃ (p l d : Nat) (T : List (BitVec 8)), s1 = .int .i64 (p : Int) ∧ s7 = .string (sL T) ∧ s8 = .int .i64 (endI d) ∧ s9 = .int .i64 (l : Int) ∧ Hid (Below w.heap.size w wr) ∧ Hid (runG f n g p l d T = (re, rd, rt)) ∧ Hid (meas n l T < g) ∧ Hid (T.length ≤ 254) ∧ p ≤ 200000 ∧ l ≤ 200000)
  case atStart => exact ⟨p0, p0, 0, [], rfl, rfl, rfl, rfl, Below.refl _ _, HR.out, Nat.lt_succ_self _, (Nat.zero_le _ : ([] : List (BitVec 8)).length ≤ 254), by omega, by omega⟩
  case round =>
    clear HR
    obtain ⟨p, l, d, T, rfl, rfl, rfl, rfl, HB, HR, HM, HT, hpl, hll⟩ := hrel
    have hgk : 0 < gk := by have := HM.out; omega
    by_cases h0 : n ≤ p
    · have h0' : (n : Int) ≤ (p : Int) := by omega
      have hr := run_stop HR.out hgk (s := (p, l, d, T, false, 3)) (by unfold stepS; rw [if_pos h0]) (by simp)
      have HE := Lib.hid hr
      clear hr HR HM HT
      go_wp2_with fail
      go_ret3
      have he := HE.out
      injection he with r1 r2
      injection r2 with r2 r3
      subst r1 r2 r3
      exact ⟨rfl, HB.out⟩
    · have h0' : ¬ (n : Int) ≤ (p : Int) := by omega
      have i0 := IX.out p (by omega)
      have hlt := (f p).isLt
      obtain ⟨k, hk⟩ : ∃ k, (f p).toNat = k := ⟨_, rfl⟩
      have hw : Value.int .i64 (wrap64 (n8 (f p))) = Value.int .i64 (k : Int) := by rw [n8_nat, hk]; congr 1; unfold wrap64; omega
      rw [hk] at hlt
      by_cases h1 : f p = 0#8
      · have hk0 : k = 0 := by rw [← hk, h1]; rfl
        have hX : ((k : Int) == 0) = true := by rw [hk0]; rfl
        have hq1 : 0 ≤ p + 1 := by omega
        generalize n8 (f p) = X at *
        by_cases hd : d = 0
        · have hE : endI d = -1 := by unfold endI; rw [if_pos hd]
          have hneg : (-1 : Int) < 0 := by omega
          rw [hE]
          by_cases hT : T = []
          · have e1 : (sL T).toList.isEmpty = true := by rw [hT, sL_list]; rfl
            have hN : nameF T = [46#8] := by unfold nameF; rw [if_pos hT]
            have HN := Lib.hid hN
            clear hN hE
            have hr := run_stop HR.out hgk (s := (p + 1, l, p + 1, T, true, 0)) (by unfold stepS; rw [if_neg h0, if_pos h1, if_pos hd]) (by simp)
            have HE := Lib.hid hr
            clear hr HR HM HT h1 hd hT hk0
            go_wp2_with fail
            go_ret3
            have he := HE.out
            injection he with r1 r2
            injection r2 with r2 r3
            have r3' : rt = nameF T := r3
            rw [HN.out] at r3'
            subst r1 r2 r3'
            exact ⟨rfl, HB.out⟩
          · have e1 : (sL T).toList.isEmpty = false := by rw [sL_list]; simp [hT]
            have hN : nameF T = T := by unfold nameF; rw [if_neg hT]
            have HN := Lib.hid hN
            clear hN hE
            have hr := run_stop HR.out hgk (s := (p + 1, l, p + 1, T, true, 0)) (by unfold stepS; rw [if_neg h0, if_pos h1, if_pos hd]) (by simp)
            have HE := Lib.hid hr
            clear hr HR HM HT h1 hd hT hk0
            go_wp2_with fail
            go_ret3
            have he := HE.out
            injection he with r1 r2
            injection r2 with r2 r3
            have r3' : rt = nameF T := r3
            rw [HN.out] at r3'
            subst r1 r2 r3'
            exact ⟨rfl, HB.out⟩
        · have hE : endI d = (d : Int) := by unfold endI; rw [if_neg hd]
          have hneg : ¬ (d : Int) < 0 := by omega
          rw [hE]
          by_cases hT : T = []
          · have e1 : (sL T).toList.isEmpty = true := by rw [hT, sL_list]; rfl
            have hN : nameF T = [46#8] := by unfold nameF; rw [if_pos hT]
            have HN := Lib.hid hN
            clear hN hE
            have hr := run_stop HR.out hgk (s := (p + 1, l, d, T, true, 0)) (by unfold stepS; rw [if_neg h0, if_pos h1, if_neg hd]) (by simp)
            have HE := Lib.hid hr
            clear hr HR HM HT h1 hd hT hk0
            go_wp2_with fail
            go_ret3
            have he := HE.out
            injection he with r1 r2
            injection r2 with r2 r3
            have r3' : rt = nameF T := r3
            rw [HN.out] at r3'
            subst r1 r2 r3'
            exact ⟨rfl, HB.out⟩
          · have e1 : (sL T).toList.isEmpty = false := by rw [sL_list]; simp [hT]
            have hN : nameF T = T := by unfold nameF; rw [if_neg hT]
            have HN := Lib.hid hN
            clear hN hE
            have hr := run_stop HR.out hgk (s := (p + 1, l, d, T, true, 0)) (by unfold stepS; rw [if_neg h0, if_pos h1, if_neg hd]) (by simp)
            have HE := Lib.hid hr
            clear hr HR HM HT h1 hd hT hk0
            go_wp2_with fail
            go_ret3
            have he := HE.out
            injection he with r1 r2
            injection r2 with r2 r3
            have r3' : rt = nameF T := r3
            rw [HN.out] at r3'
            subst r1 r2 r3'
            exact ⟨rfl, HB.out⟩
      · have hk0 : k ≠ 0 := fun e => h1 (BitVec.eq_of_toNat_eq (by rw [hk, e]; rfl))
        have hX : ((k : Int) == 0) = false := beq_eq_false_iff_ne.2 (by omega)
        by_cases h192 : 192 ≤ k
        · have h192' : (192 : Int) ≤ (k : Int) := by omega
          by_cases h2 : n ≤ p + 1
          · have h2' : (n : Int) ≤ (p : Int) + 1 := by omega
            have hr := run_stop HR.out hgk (s := (p + 1, l, d, T, false, 3)) (by unfold stepS; rw [if_neg h0, if_neg h1, if_neg (by rw [hk]; omega), if_pos (by rw [hk]; exact h192), if_pos h2]) (by simp)
            have HE := Lib.hid hr
            clear hr HR HM HT h1
            generalize n8 (f p) = X at *
            go_wp2_with fail
            go_ret3
            have he := HE.out
            injection he with r1 r2
            injection r2 with r2 r3
            subst r1 r2 r3
            exact ⟨rfl, HB.out⟩
          · have h2' : ¬ (n : Int) ≤ (p : Int) + 1 := by omega
            have i1 : ∀ w' : World, (Instr.index 9 (.string S) (.int .i64 ((p : Int) + 1))).run Tryd.prog w' = .ok (.int .u8 (n8 (f (p + 1)))) w' := IX.out (p + 1) (by omega)
            have hlt2 := (f (p + 1)).isLt
            have hto : toF (f p) (f (p + 1)) = (k - 192) * 256 + (f (p + 1)).toNat := by unfold toF; rw [hk]; omega
            obtain ⟨m, hm⟩ : ∃ m, (f (p + 1)).toNat = m := ⟨_, rfl⟩
            have hw2 : Value.int .i64 (wrap64 (n8 (f (p + 1)))) = Value.int .i64 (m : Int) := by rw [n8_nat, hm]; congr 1; unfold wrap64; omega
            rw [hm] at hto hlt2
            obtain ⟨K, hK⟩ : ∃ K, (k - 192) * 256 + m = K := ⟨_, rfl⟩
            rw [hK] at hto
            have hK2 : ((k : Int) - 192) * 256 + (m : Int) = (K : Int) := by omega
            have hv : Value.int .i64 (((k : Int) - 192) * 256 + (m : Int)) = Value.int .i64 (K : Int) := by rw [hK2]
            have hKb : K ≤ 16383 := by omega
            have HTO := Lib.hid hto
            have HH1 := Lib.hid h1
            have HK := Lib.hid hk
            clear hto hm hK h1 hk hK2
            generalize n8 (f p) = X at *
            generalize n8 (f (p + 1)) = Y at *
            by_cases hd : d = 0
            · have hE : endI d = -1 := by unfold endI; rw [if_pos hd]
              have hneg : (-1 : Int) < 0 := by omega
              rw [hE]
              by_cases hlK : l ≤ K
              · have hlK' : (l : Int) ≤ (K : Int) := by omega
                have hr := run_stop HR.out hgk (s := (p + 1 + 1, l, d, T, false, 13)) (by unfold stepS; rw [if_neg h0, if_neg HH1.out, if_neg (by rw [HK.out]; omega), if_pos (by rw [HK.out]; exact h192), if_neg h2, if_pos (by rw [HTO.out]; exact hlK)]) (by simp)
                have HE := Lib.hid hr
                clear hr HR HM HT hE hd
                go_wp2_with fail
                go_ret3
                have he := HE.out
                injection he with r1 r2
                injection r2 with r2 r3
                subst r1 r2 r3
                exact ⟨rfl, HB.out⟩
              · have hlK' : ¬ (l : Int) ≤ (K : Int) := by omega
                obtain ⟨g, hg⟩ : ∃ g, gk = g + 1 := ⟨gk - 1, by omega⟩
                subst hg
                have hr := run_on HR.out (p' := K) (l' := K) (d' := p + 1 + 1) (T' := T) (by unfold stepS; rw [if_neg h0, if_neg HH1.out, if_neg (by rw [HK.out]; omega), if_pos (by rw [HK.out]; exact h192), if_neg h2, if_neg (by rw [HTO.out]; exact hlK), HTO.out, if_pos hd])
                have HE := Lib.hid hr
                have hE2 : endI (p + 1 + 1) = (p : Int) + 2 := by unfold endI; rw [if_neg (by omega)]; omega
                have HE2 := Lib.hid hE2
                clear hr HR hE hE2 hd
                go_wp2_with fail
                go_roundg g
                case measure => go_light; omega
                case rel =>
                  go_light
                  refine ⟨K, K, p + 1 + 1, T, rfl, rfl, by rw [HE2.out], rfl, HB.out, HE.out, ?_, HT.out, by omega, by omega⟩
                  have hm := HM.out
                  have : meas n K T < meas n l T := by unfold meas; omega
                  exact (by omega : meas n K T < g)
            · have hE : endI d = (d : Int) := by unfold endI; rw [if_neg hd]
              have hneg : ¬ (d : Int) < 0 := by omega
              rw [hE]
              by_cases hlK : l ≤ K
              · have hlK' : (l : Int) ≤ (K : Int) := by omega
                have hr := run_stop HR.out hgk (s := (p + 1 + 1, l, d, T, false, 13)) (by unfold stepS; rw [if_neg h0, if_neg HH1.out, if_neg (by rw [HK.out]; omega), if_pos (by rw [HK.out]; exact h192), if_neg h2, if_pos (by rw [HTO.out]; exact hlK)]) (by simp)
                have HE := Lib.hid hr
                clear hr HR HM HT hE hd
                go_wp2_with fail
                go_ret3
                have he := HE.out
                injection he with r1 r2
                injection r2 with r2 r3
                subst r1 r2 r3
                exact ⟨rfl, HB.out⟩
              · have hlK' : ¬ (l : Int) ≤ (K : Int) := by omega
                obtain ⟨g, hg⟩ : ∃ g, gk = g + 1 := ⟨gk - 1, by omega⟩
                subst hg
                have hr := run_on HR.out (p' := K) (l' := K) (d' := d) (T' := T) (by unfold stepS; rw [if_neg h0, if_neg HH1.out, if_neg (by rw [HK.out]; omega), if_pos (by rw [HK.out]; exact h192), if_neg h2, if_neg (by rw [HTO.out]; exact hlK), HTO.out, if_neg hd])
                have HE := Lib.hid hr
                have hE2 : endI (d) = (d : Int) := by unfold endI; rw [if_neg (by omega)]
                have HE2 := Lib.hid hE2
                clear hr HR hE hE2 hd
                go_wp2_with fail
                go_roundg g
                case measure => go_light; omega
                case rel =>
                  go_light
                  refine ⟨K, K, d, T, rfl, rfl, by rw [HE2.out], rfl, HB.out, HE.out, ?_, HT.out, by omega, by omega⟩
                  have hm := HM.out
                  have : meas n K T < meas n l T := by unfold meas; omega
                  exact (by omega : meas n K T < g)
        · have h192' : ¬ (192 : Int) ≤ (k : Int) := by omega
          by_cases h63 : k ≤ 63
          · have h63' : ¬ (63 : Int) < (k : Int) := by omega
            have e1 := fun i j (h : (pst f n (p + 1) i).2 = j) (hj : j ≠ 0) (hi : i ≤ k) => pst_err (k := k) h hj hi
            have HST : Hid (stepS f n p l d T = ((pst f n (p + 1) k).1, p, d, T ++ ptx f n (p + 1) k ++ [46#8], false, if (pst f n (p + 1) k).2 = 0 ∧ 254 < (T ++ ptx f n (p + 1) k ++ [46#8]).length then 14 else (pst f n (p + 1) k).2)) := by unfold stepS; rw [if_neg h0, if_neg h1, hk, if_pos h63]; exact rfl
            have E1 := Lib.hid e1
            clear h1 hk e1
            have hX' := hX
            generalize n8 (f p) = X at *
            go_wp2_with fail
            go_loopw [12, 13] (fun s12 s13 wq => ∃ i : Nat, i ≤ k ∧ s13 = .int .i64 ((i : Int) + 1) ∧ s12 = .string (sL (ptx f n (p + 1) i)) ∧ Hid (pst f n (p + 1) i = (p + 1 + i, 0)) ∧ Hid (Below w.heap.size w wq)) (fun _ s13 _ => 1 + k - (intOf s13).toNat)
            case atStart => exact ⟨0, by omega, rfl, rfl, rfl, HB.out⟩
            case round =>
              obtain ⟨i, hi, rfl, rfl, HP, HB2⟩ := hrel
              clear i0 hX' hw
              by_cases hik : i < k
              · have hik' : (i : Int) + 1 ≤ (k : Int) := by omega
                by_cases hpn : n ≤ p + 1 + i
                · have hpn' : (n : Int) ≤ (p : Int) + ((i : Int) + 1) := by omega
                  have hp1 := pst_next HP.out
                  rw [if_pos hpn] at hp1
                  have hpk : (pst f n (p + 1) k).2 = 3 := E1.out (i + 1) 3 (by rw [hp1]) (by simp) (by omega)
                  have hr := run_stop HR.out hgk HST.out (by dsimp only; rw [hpk]; simp)
                  have HE : Hid ((re, rd, rt) = (3, 0, [])) := by rw [hr, outG]; dsimp only; rw [hpk, if_neg (by simp), if_neg (by simp)]; exact rfl
                  clear hr hpk hp1 HST E1 HR HP
                  go_wp2_with fail
                  go_ret3
                  have he := HE.out
                  injection he with r1 r2
                  injection r2 with r2 r3
                  subst r1 r2 r3
                  exact ⟨rfl, HB2.out⟩
                · have hpn' : ¬ (n : Int) ≤ (p : Int) + ((i : Int) + 1) := by omega
                  have i2 : ∀ w' : World, (Instr.index 9 (.string S) (.int .i64 ((p : Int) + ((i : Int) + 1)))).run Tryd.prog w' = .ok (.int .u8 (n8 (f (p + 1 + i)))) w' := by
                    have h := IX.out (p + 1 + i) (by omega)
                    rw [show ((p + 1 + i : Nat) : Int) = (p : Int) + ((i : Int) + 1) by omega] at h
                    exact h
                  have hln := n8_nat (lowc (f (p + 1 + i)))
                  rw [lowc_nat] at hln
                  have hcn := n8_nat (f (p + 1 + i))
                  have hclt := (f (p + 1 + i)).isLt
                  have LT := Lib.hid (letter_any (lowc (f (p + 1 + i))))
                  have hp1 := pst_next HP.out
                  rw [if_neg hpn] at hp1
                  have hpt := ptx_next HP.out (by omega)
                  have cv : ∀ wq : World, (convert 29 9 (.slice (some ⟨wq.heap.size, 0, none⟩) 1 1)).run Tryd.prog (wq.alloc (.cells #[.int .u8 (n8 (lowc (f (p + 1 + i))))] 5)) = .ok (.string (sL [lowc (f (p + 1 + i))])) (wq.alloc (.cells #[.int .u8 (n8 (lowc (f (p + 1 + i))))] 5)) := fun wq => conv_one _ wq
                  generalize lowc (f (p + 1 + i)) = C at *
                  generalize f (p + 1 + i) = c at *
                  obtain ⟨cn, hcn2⟩ : ∃ cn, c.toNat = cn := ⟨_, rfl⟩
                  rw [hcn2] at hln hcn hclt
                  generalize n8 c = X2 at *
                  have HP1 := Lib.hid hp1
                  have HPT := Lib.hid hpt
                  clear hp1 hpt HP
                  by_cases hup : 65 ≤ cn ∧ cn ≤ 90
                  · rw [if_pos hup] at hln
                    have h65 : (65 : Int) ≤ X2 := by omega
                    have h90 : X2 ≤ 90 := by omega
                    have hxc : X2 + 32 = n8 C := by omega
                    have HXC := Lib.hid hxc
                    clear hln hcn hclt hcn2 hxc
                    go_upto_region 33 with fail
                    rw [HXC.out]
                    clear HXC
                    cases hc : okc C with
                    | true =>
                      rw [hc] at LT
                      have hps : Hid (pst f n (p + 1) (i + 1) = (p + 1 + (i + 1), 0)) := by rw [HP1.out, if_neg (by rw [hc]; simp)]; exact rfl
                      have cv2 := cv wr
                      have z1 := sL_size (ptx f n (p + 1) i)
                      rw [ptx_len] at z1
                      have z2 : (sL [C]).size = 1 := sL_size [C]
                      clear cv HP1 hc
                      go_wp2_with (go_at_call 28; refine (LT.out _).mono ?_; rintro e w' ⟨rfl, rfl⟩)
                      go_roundw
                      case rel => exact ⟨i + 1, by omega, by rw [Int.natCast_add]; rfl, by rw [HPT.out, ← sL_app], hps.out, HB2.out.alloc HB2.out.size _⟩
                      case measure => simp only [intOf]; omega
                    | false =>
                      rw [hc] at LT
                      have hpk : (pst f n (p + 1) k).2 = 14 := E1.out (i + 1) 14 (by rw [HP1.out, if_pos hc]) (by simp) (by omega)
                      have hr := run_stop HR.out hgk HST.out (by dsimp only; rw [hpk]; simp)
                      have HE : Hid ((re, rd, rt) = (14, 0, [])) := by rw [hr, outG]; dsimp only; rw [hpk, if_neg (by simp), if_neg (by simp)]; exact rfl
                      clear hr hpk HP1 HST E1 HR cv hc
                      go_wp2_with (go_at_call 28; refine (LT.out _).mono ?_; rintro e w' ⟨rfl, rfl⟩)
                      go_ret3
                      have he := HE.out
                      injection he with r1 r2
                      injection r2 with r2 r3
                      subst r1 r2 r3
                      exact ⟨rfl, HB2.out⟩
                  · rw [if_neg hup] at hln
                    have hxc : X2 = n8 C := by omega
                    have hup2 : ¬ (65 ≤ n8 C) ∨ (65 ≤ n8 C ∧ ¬ n8 C ≤ 90) := by omega
                    subst hxc
                    clear hln hcn hclt hcn2 hup
                    rcases hup2 with h65 | ⟨h65, h90⟩
                    · go_upto_region 33 with fail
                      cases hc : okc C with
                      | true =>
                        rw [hc] at LT
                        have hps : Hid (pst f n (p + 1) (i + 1) = (p + 1 + (i + 1), 0)) := by rw [HP1.out, if_neg (by rw [hc]; simp)]; exact rfl
                        have cv2 := cv wr
                        have z1 := sL_size (ptx f n (p + 1) i)
                        rw [ptx_len] at z1
                        have z2 : (sL [C]).size = 1 := sL_size [C]
                        clear cv HP1 hc
                        go_wp2_with (go_at_call 28; refine (LT.out _).mono ?_; rintro e w' ⟨rfl, rfl⟩)
                        go_roundw
                        case rel => exact ⟨i + 1, by omega, by rw [Int.natCast_add]; rfl, by rw [HPT.out, ← sL_app], hps.out, HB2.out.alloc HB2.out.size _⟩
                        case measure => simp only [intOf]; omega
                      | false =>
                        rw [hc] at LT
                        have hpk : (pst f n (p + 1) k).2 = 14 := E1.out (i + 1) 14 (by rw [HP1.out, if_pos hc]) (by simp) (by omega)
                        have hr := run_stop HR.out hgk HST.out (by dsimp only; rw [hpk]; simp)
                        have HE : Hid ((re, rd, rt) = (14, 0, [])) := by rw [hr, outG]; dsimp only; rw [hpk, if_neg (by simp), if_neg (by simp)]; exact rfl
                        clear hr hpk HP1 HST E1 HR cv hc
                        go_wp2_with (go_at_call 28; refine (LT.out _).mono ?_; rintro e w' ⟨rfl, rfl⟩)
                        go_ret3
                        have he := HE.out
                        injection he with r1 r2
                        injection r2 with r2 r3
                        subst r1 r2 r3
                        exact ⟨rfl, HB2.out⟩
                    · go_upto_region 33 with fail
                      cases hc : okc C with
                      | true =>
                        rw [hc] at LT
                        have hps : Hid (pst f n (p + 1) (i + 1) = (p + 1 + (i + 1), 0)) := by rw [HP1.out, if_neg (by rw [hc]; simp)]; exact rfl
                        have cv2 := cv wr
                        have z1 := sL_size (ptx f n (p + 1) i)
                        rw [ptx_len] at z1
                        have z2 : (sL [C]).size = 1 := sL_size [C]
                        clear cv HP1 hc
                        go_wp2_with (go_at_call 28; refine (LT.out _).mono ?_; rintro e w' ⟨rfl, rfl⟩)
                        go_roundw
                        case rel => exact ⟨i + 1, by omega, by rw [Int.natCast_add]; rfl, by rw [HPT.out, ← sL_app], hps.out, HB2.out.alloc HB2.out.size _⟩
                        case measure => simp only [intOf]; omega
                      | false =>
                        rw [hc] at LT
                        have hpk : (pst f n (p + 1) k).2 = 14 := E1.out (i + 1) 14 (by rw [HP1.out, if_pos hc]) (by simp) (by omega)
                        have hr := run_stop HR.out hgk HST.out (by dsimp only; rw [hpk]; simp)
                        have HE : Hid ((re, rd, rt) = (14, 0, [])) := by rw [hr, outG]; dsimp only; rw [hpk, if_neg (by simp), if_neg (by simp)]; exact rfl
                        clear hr hpk HP1 HST E1 HR cv hc
                        go_wp2_with (go_at_call 28; refine (LT.out _).mono ?_; rintro e w' ⟨rfl, rfl⟩)
                        go_ret3
                        have he := HE.out
                        injection he with r1 r2
                        injection r2 with r2 r3
                        subst r1 r2 r3
                        exact ⟨rfl, HB2.out⟩
              · have hik' : ¬ (i : Int) + 1 ≤ (k : Int) := by omega
                have ei : i = k := by omega
                subst ei
                have z1 := sL_size (ptx f n (p + 1) i)
                rw [ptx_len] at z1
                have z2 := sL_size T
                have hl : (T ++ ptx f n (p + 1) i ++ [46#8]).length = T.length + i + 1 := by rw [List.length_append, List.length_append, ptx_len]; rfl
                have hsl : Hid (sL T ++ sL (ptx f n (p + 1) i) ++ ⟨#[46]⟩ = sL (T ++ ptx f n (p + 1) i ++ [46#8])) := by rw [sL_app, ← sL_dot, sL_app]; exact rfl
                have hTl := HT.out
                have HTl := Lib.hid hTl
                by_cases hb : 254 < T.length + i + 1
                · have hb' : (254 : Int) < (T.length : Int) + (i : Int) + 1 := by omega
                  have hst : stepS f n p l d T = (p + 1 + i, p, d, T ++ ptx f n (p + 1) i ++ [46#8], false, 14) := by rw [HST.out, HP.out]; dsimp only; rw [if_pos ⟨rfl, by rw [hl]; exact hb⟩]
                  have hr := run_stop HR.out hgk hst (by simp)
                  have HE := Lib.hid hr
                  clear hr hst HST HR E1 HP hb hl
                  generalize sL (ptx f n (p + 1) i) = P1 at *
                  generalize sL T = P2 at *
                  generalize T.length = N at *
                  go_wp2_with fail
                  go_ret3
                  have he := HE.out
                  injection he with r1 r2
                  injection r2 with r2 r3
                  subst r1 r2 r3
                  exact ⟨rfl, HB2.out⟩
                · have hb' : ¬ (254 : Int) < (T.length : Int) + (i : Int) + 1 := by omega
                  have hst : stepS f n p l d T = (p + 1 + i, p, d, T ++ ptx f n (p + 1) i ++ [46#8], false, 0) := by rw [HST.out, HP.out]; dsimp only; rw [if_neg (fun h => hb (by rw [hl] at h; exact h.2))]
                  obtain ⟨g, hg⟩ : ∃ g, gk = g + 1 := ⟨gk - 1, by omega⟩
                  subst hg
                  have hr := run_on HR.out hst
                  have hm := meas_step (f := f) (n := n) (p := p) (l := l) (d := d) (T := T) (by rw [hst]) (by rw [hst]) HT.out
                  rw [hst] at hm
                  dsimp only at hm
                  have HE := Lib.hid hr
                  have HM2 := Lib.hid hm
                  have Hl := Lib.hid hl
                  clear hr hst HST HR E1 HP hb hl hm hTl
                  generalize T ++ ptx f n (p + 1) i ++ [46#8] = TT at *
                  generalize sL (ptx f n (p + 1) i) = P1 at *
                  generalize sL T = P2 at *
                  generalize T.length = N at *
                  go_wp2_with fail
                  go_roundg g
                  case measure => go_light; omega
                  case rel =>
                    go_light
                    exact ⟨p + 1 + i, p, d, TT, by rw [Int.natCast_add, Int.natCast_add]; rfl, by rw [hsl.out], rfl, rfl, HB2.out, HE.out, by have h1 := HM2.out.1; have h2 := HM.out; exact (by omega : meas n p TT < g), HM2.out.2, by omega, by omega⟩
          · have h63' : (63 : Int) < (k : Int) := by omega
            have hr := run_stop HR.out hgk (s := (p + 1, l, d, T, false, 2)) (by unfold stepS; rw [if_neg h0, if_neg h1, if_neg (by rw [hk]; exact h63), if_neg (by rw [hk]; exact h192)]) (by simp)
            have HE := Lib.hid hr
            clear hr HR HM HT h1
            generalize n8 (f p) = X at *
            go_wp2_with fail
            go_ret3
            have he := HE.out
            injection he with r1 r2
            injection r2 with r2 r3
            subst r1 r2 r3
            exact ⟨rfl, HB.out⟩
end Go.Proofs.YtddpfbeclmgndaaDoor
