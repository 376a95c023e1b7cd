/-
  A name comes back from its bytes, at any place, whatever stands ahead and behind, and its parts, put together, are it, at the commit of COMMIT; the two tables of unicode/utf8 hold what the library's text lays.
-/
import Derived.Test.YtddpfbeclmgndaaDoorRows
import Derived.Test.YtddpfbeclmgndaaDoorCards
import Derived.Test.YtddpfbeclmgndaaDoorTie
import Derived.Test.YtddpfbeclmgndaaDoorNmDoor
import Derived.Test.YtddpfbeclmgndaaDoorNnE
import Derived.Test.YtddpfbeclmgndaaDoorOpenB
import Derived.Test.YtddpfbeclmgndaaDoorOpen
import Derived.Test.YtddpfbeclmgndaaDoorEq
import Derived.WalkKit
import Derived.ProofKit
import Derived.OpenShut
import Derived.ShutString
import Derived.ChangeOld
import Derived.Below
import Derived.Deep.DeepCutAuto
import Derived.Deep.Upon
import Derived.Deep.AppendSrc
import Derived.SevenTiedAt
import Derived.LaidMore
import Derived.SizedLaws
import Derived.Lib.SmallJoins
namespace Go.Proofs.YtddpfbeclmgndaaDoor.nameBack
open Go Go.ChangeShapes Go.WideShapes Go.ChangeAt Go.RowKit Go.BigFrame
set_option linter.unusedVariables false
theorem flat_le (ps : List (List (BitVec 8))) (h : ∀ p ∈ ps, p.length ≤ 63) : (flatD ps).length ≤ 64 * ps.length := by
  induction ps with
  | nil => simp [flatD]
  | cons p ps ih =>
    have h1 := ih fun q hq => h q (List.mem_cons_of_mem _ hq)
    have h2 := h p (List.mem_cons_self ..)
    rw [flatD_cons, List.length_append, List.length_cons, List.length_cons]
    omega
set_option maxHeartbeats 8000000 in
set_option maxRecDepth 100000 in
theorem backs (L : List (BitVec 8)) (a b : Option Addr) (na nb ca cb : Nat) (fa fb : Nat → BitVec 8) (w : World) (hLn : L.length ≤ 3000) (hna : na ≤ 2000) (hnb : nb ≤ 2000) (IA : BytesIn w a na fa) (IB : BytesIn w b nb fb) (hr : rightB L = true) :
    Calls Tryd.prog 7 #[.string (sL L), .slice a na ca, .slice b nb cb] w fun e w' => e = .returned (.bool true) ∧ Below w.heap.size w w' := by
  have NA := Lib.hid named_any
  have zL := sL_size L
  have q1 : ¬ (3000 : Int) < (L.length : Int) := by omega
  have q2 : ¬ (2000 : Int) < (na : Int) := by omega
  have q3 : ¬ (2000 : Int) < (nb : Int) := by omega
  have WR := Lib.hid (fun w => wire_ok L w hr)
  have PL := Lib.hid (fun w => labels_any L w (by omega))
  have LP : Hid (∀ B v c w, LabPost B L v c w → c = 0 ∧ RowS B v (labF L) w) := by
    intro B v c w h
    rcases h with h | h
    · rw [hr] at h; cases h.1
    · exact h.2
  have hwn : wireF L ≠ [] := by unfold wireF; simp
  have HWN := Lib.hid hwn
  have hll := lab_le hr
  have hps := lab_part hr
  have hwl : (wireF L).length ≤ 20000 := by
    have h1 := wireTo_le (labF L) (fun p hp => part_le (hps p hp))
    have e : (wireF L).length = (wireTo (labF L)).length + 1 := by unfold wireF; rw [List.length_append]; rfl
    omega
  have HWL := Lib.hid hwl
  have GB := Lib.hid (fun (f : Nat → BitVec 8) (n p : Nat) hf hn => get_back (f := f) (n := n) (p := p) hr hf hn)
  have HNM := Lib.hid (nm_of hr)
  have HPS := Lib.hid hps
  have HFL := Lib.hid (fun k => flat_le ((labF L).take k) (fun p hp => part_le (hps p (List.mem_of_mem_take hp))))
  have hE := sL_beq L L
  rw [decide_eq_true rfl] at hE
  have AIN := Lib.hid IA
  have BIN := Lib.hid IB
  clear IA IB hwn hwl hps hr
  obtain ⟨P, hP⟩ : ∃ P, labF L = P := ⟨_, rfl⟩
  rw [hP] at LP hll HNM HPS HFL
  obtain ⟨WF, hWF⟩ : ∃ WF, wireF L = WF := ⟨_, rfl⟩
  rw [hWF] at WR HWN HWL GB
  clear hP hWF
  obtain ⟨S, hS⟩ : ∃ S, sL L = S := ⟨_, rfl⟩
  have HS := Lib.hid hS
  rw [hS] at zL WR PL hE ⊢
  clear hS
  obtain ⟨NL, hNL⟩ : ∃ NL, L.length = NL := ⟨_, rfl⟩
  rw [hNL] at zL q1 hLn
  clear hNL
  go_enter Tryd.func7, Tryd.ntmps7
  go_upto_region 6 with (first
    | (go_at_call 14; refine (WR.out _).mono ?_; clear WR; rintro e w1 ⟨v1, rfl, O1, B1⟩; have O1' := Lib.hid O1; obtain ⟨g1, p1, hv1, -⟩ := O1.slice HWN.out; subst hv1; clear O1)
    | (go_at_call 10; refine (NA.out _).mono ?_; rintro e w2 ⟨rfl, B2⟩))
  have B12 := Lib.hid (B1.trans (B2.mono B1.size))
  have O2 := Lib.hid (O1'.out.later B2)
  clear B1 B2 O1'
  obtain ⟨NW, hNW⟩ : ∃ NW, WF.length = NW := ⟨_, rfl⟩
  have HNW := Lib.hid hNW
  rw [hNW] at O2 HWL ⊢
  clear hNW
  have hnw := HWL.out
  have E0 := Lib.hid (Own.empty (B := w2.heap.size) (fun _ => 0#8) w2 (Nat.le_refl _))
  have b3 := Lib.hid ((Below.refl w2.heap.size w2).alloc (Nat.le_refl _) (.cells #[] 5))
  have SA := Lib.hid (fun (w3 : World) (hb : Below w2.heap.size w2 w3) => src_in (bytesIn_later AIN.out (B12.out.trans (hb.mono B12.out.size))) ca)
  have SB := Lib.hid (fun (w3 : World) (hb : Below w2.heap.size w2 w3) => src_in (bytesIn_later BIN.out (B12.out.trans (hb.mono B12.out.size))) cb)
  have SW : Hid (∀ (w3 : World), Below w2.heap.size w2 w3 → Src Tryd.prog 1 29 (.slice (some ⟨g1, 0, none⟩) NW p1) NW (firsts (bx WF) NW) w3) := by
    intro w3 hb
    have h1 := O2.out.later hb
    obtain ⟨g, cp, hv, -, hg, hc⟩ := h1.slice HWN.out
    rw [HNW.out] at hv hc
    injection hv with hv1 hv2 hv3
    injection hv1 with hv1
    injection hv1 with hv1
    subst hv1 hv3
    exact src_bytes (bx WF) _ 0 NW _ w3 (fun i hi => by rw [Nat.zero_add]; exact hc i hi)
  go_upto_region 7 with (first
    | (refine wpList_append_bytes (o := ⟨some 53, _, _, _, _, _⟩) rfl _ _ 29 rfl rfl rfl E0.out (SA.out _ b3.out) (by omega) ?_; intro v3 w3 ho3 hg3; have b4 := Lib.hid (b3.out.trans (hg3.below E0.out)))
    | (refine wpList_append_bytes (o := ⟨some 55, _, _, _, _, _⟩) rfl _ _ 29 rfl rfl rfl ho3 (SW.out _ b4.out) (by omega) ?_; intro v4 w4 ho4 hg4; have b5 := Lib.hid (b4.out.trans (hg4.below ho3)))
    | (refine wpList_append_bytes (o := ⟨some 57, _, _, _, _, _⟩) rfl _ _ 29 rfl rfl rfl ho4 (SB.out _ b5.out) (by omega) ?_; intro v5 w5 ho5 hg5; have b6 := Lib.hid (b5.out.trans (hg5.below ho4))))
  obtain ⟨F, hF⟩ : ∃ F, joinb (joinb (joinb (fun _ => 0#8) 0 fa) (0 + na) (bx WF)) (0 + na + NW) fb = F := ⟨_, rfl⟩
  have hFb : ∀ i, i < WF.length → F (na + i) = bx WF i := by
    intro i hi
    rw [HNW.out] at hi
    rw [← hF]
    unfold joinb
    rw [if_pos (show na + i < 0 + na + NW by omega), if_neg (show ¬ na + i < 0 + na by omega)]
    congr 1
    omega
  obtain ⟨N, hN⟩ : ∃ N, 0 + na + NW + nb = N := ⟨_, rfl⟩
  rw [hF, hN] at ho5
  have hnwp : 0 < NW := by rw [← HNW.out]; exact List.length_pos_iff.2 HWN.out
  have hNle : na + WF.length ≤ N := by rw [HNW.out]; omega
  have hgb := GB.out F N na hFb hNle
  rw [HNW.out] at hgb
  obtain ⟨g5, c5, hv5, hnc, hcm, hBI⟩ := ho5.bytesIn (by omega)
  have hlt5 : g5 < w5.heap.size := by
    rcases hBI.2 with h | ⟨x, o, e, hx, _⟩
    · omega
    · cases e; exact hx
  have GT := Lib.hid (get_ok (some ⟨g5, 0, none⟩) N c5 F na w5 ⟨hBI, hnc, hcm, fun y hy _ => by cases hy; exact hlt5⟩ (by omega))
  rw [hgb] at GT
  dsimp only at GT
  rw [HS.out] at GT
  subst hv5
  have B6 := Lib.hid (B12.out.trans (b6.out.mono B12.out.size))
  have hNN := Lib.hid hN
  clear ho3 ho4 ho5 hg3 hg4 hg5 hF hFb hN hNle hgb hBI hlt5 hnc hcm b3 b4 b5 b6 E0 SA SB SW O2 hnwp
  go_upto_region 9 with (first
    | (go_at_call 19; refine GT.out.mono ?_; clear GT; rintro e w6 ⟨rfl, C6⟩)
    | (go_at_call 12; refine (PL.out _).mono ?_; clear PL; rintro e w7 ⟨v7, c7, rfl, hp7, C7⟩; obtain ⟨rfl, R7⟩ := LP.out _ _ _ _ hp7; clear hp7; have R7' := Lib.hid R7; obtain ⟨ad, hv7, -⟩ := R7; subst hv7))
  have B7 := Lib.hid ((B6.out.trans (C6.mono B6.out.size)).trans (C7.mono (B6.out.trans (C6.mono B6.out.size)).size))
  clear C6 C7 B6 B12 LP NA
  obtain ⟨n, hn⟩ : ∃ n, P.length = n := ⟨_, rfl⟩
  have HN := Lib.hid hn
  rw [hn] at hll R7' ⊢
  clear hn
  have s1 : ((na : Int) + (NW : Int) == (na : Int) + (NW : Int)) = true := beq_self_eq_true _
  go_wp2_with fail
  go_loopw [14, 15] (fun s14 s15 wr => ∃ k : Nat, k ≤ n ∧ s15 = .int .i64 (k : Int) ∧ s14 = .string (sL (flatD (P.take k))) ∧ w7 = wr) (fun _ s15 _ => n - (intOf s15).toNat)
  case atStart => exact ⟨0, by omega, rfl, rfl, rfl⟩
  case round =>
    obtain ⟨k, hk, rfl, rfl, rfl⟩ := hrel
    by_cases hkn : k < n
    · have hkn' : (k : Int) < (n : Int) := by omega
      have hkl : k < P.length := by rw [HN.out]; exact hkn
      obtain ⟨g, hv, hc, -, -⟩ := R7'.out.at k hkl
      rw [HN.out] at hv
      injection hv with hv
      subst hv
      have hpl : (P[k]).length ≤ 63 := part_le (HPS.out _ (List.getElem_mem hkl))
      have htl : (P.take k).length ≤ k := by rw [List.length_take]; omega
      have hfl := HFL.out k
      have hfl2 : (flatD (P.take k)).length ≤ 20000 := by omega
      have hsn : Hid (sL (flatD (P.take k)) ++ sL P[k] ++ ⟨#[46]⟩ = sL (flatD (P.take (k + 1)))) := by
        rw [← List.take_append_getElem hkl, flatD_snoc, sL_app, ← sL_dot, sL_app]
        exact rfl
      have zA := sL_size (flatD (P.take k))
      have zP := sL_size P[k]
      clear htl hfl
      generalize (flatD (P.take k)).length = NA at *
      generalize (P[k]).length = NP at *
      generalize sL (flatD (P.take k)) = AS at *
      generalize sL P[k] = PS at *
      have hs1 : ¬ 9223372036854775807 < NA + NP := by omega
      have hs2 : ¬ 9223372036854775807 < NA + NP + 1 := by omega
      go_wp2_with fail
      go_roundw
      case rel => exact ⟨k + 1, by omega, by rw [Int.natCast_add]; rfl, by rw [hsn.out], trivial⟩
      case measure => simp only [intOf]; omega
    · have hkn' : ¬ (k : Int) < (n : Int) := by omega
      have hall : P.take k = P := List.take_of_length_le (by rw [HN.out]; omega)
      rw [hall]
      have hnm := HNM.out
      unfold nmF at hnm
      by_cases hp0 : P = []
      · rw [if_pos hp0] at hnm
        have hn0 : n = 0 := by rw [← HN.out, hp0]; rfl
        have hz0 : ((n : Int) == 0) = true := by rw [hn0]; rfl
        have hS2 : Hid (S = ⟨#[46]⟩) := by rw [← HS.out, ← hnm]; exact rfl
        have hE2 : (([46] : List UInt8) == S.toList) = true := by rw [hS2.out, ← sL_dot, sL_list]; rfl
        clear hall hnm hp0 hn0
        generalize sL (flatD P) = FS at *
        go_wp2_with fail
        go_ret
        exact ⟨rfl, B7.out⟩
      · rw [if_neg hp0] at hnm
        have hz0 : ((n : Int) == 0) = false := by
          rw [beq_eq_false_iff_ne]
          have := List.length_pos_iff.2 hp0
          rw [HN.out] at this
          omega
        rw [hnm, HS.out]
        clear hall hnm hp0
        go_wp2_with fail
        go_ret
        exact ⟨rfl, B7.out⟩
set_option maxHeartbeats 4000000 in
set_option maxRecDepth 100000 in
theorem backs_bad (L : List (BitVec 8)) (a b : Option Addr) (na nb ca cb : Nat) (w : World) (hLn : L.length ≤ 3000) (hna : na ≤ 2000) (hnb : nb ≤ 2000) (hr : rightB L = false) :
    Calls Tryd.prog 7 #[.string (sL L), .slice a na ca, .slice b nb cb] w fun e w' => e = .returned (.bool true) ∧ Below w.heap.size w w' := by
  have NA := Lib.hid named_any
  have zL := sL_size L
  have q1 : ¬ (3000 : Int) < (L.length : Int) := by omega
  have q2 : ¬ (2000 : Int) < (na : Int) := by omega
  have q3 : ¬ (2000 : Int) < (nb : Int) := by omega
  have WR := Lib.hid (fun w => wire_bad L w (by omega) hr)
  have RR := Lib.hid (fun w => right_any L w (by omega))
  rw [hr] at RR
  clear hr
  generalize L.length = NL at *
  generalize sL L = S at *
  go_enter Tryd.func7, Tryd.ntmps7
  go_upto_region 5 with (first
    | (go_at_call 14; refine (WR.out _).mono ?_; clear WR; rintro e w1 ⟨rfl, B1⟩)
    | (go_at_call 10; refine (NA.out _).mono ?_; rintro e w2 ⟨rfl, B2⟩))
  have C2 := Lib.hid (B1.trans (B2.mono B1.size))
  go_wp2_with (first
    | (go_at_call 10; refine (NA.out _).mono ?_; rintro e w3 ⟨rfl, B3⟩)
    | (go_at_call 24; refine (RR.out _).mono ?_; rintro e w4 ⟨rfl, B4⟩))
  go_ret
  have C3 := C2.out.trans (B3.mono C2.out.size)
  exact ⟨rfl, C3.trans (B4.mono C3.size)⟩
set_option maxHeartbeats 4000000 in
set_option maxRecDepth 100000 in
theorem backs_long (L : List (BitVec 8)) (a b : Option Addr) (na nb ca cb : Nat) (w : World) (h : 3000 < L.length ∨ 2000 < na ∨ 2000 < nb) :
    Calls Tryd.prog 7 #[.string (sL L), .slice a na ca, .slice b nb cb] w fun e w' => e = .returned (.bool true) ∧ Below w.heap.size w w' := by
  have NA := Lib.hid named_any
  have zL := sL_size L
  generalize L.length = NL at *
  generalize sL L = S at *
  by_cases h1 : 3000 < NL
  · have q1 : (3000 : Int) < (NL : Int) := by omega
    clear h
    go_enter Tryd.func7, Tryd.ntmps7
    go_wp2_with (go_at_call 10; refine (NA.out _).mono ?_; rintro e w1 ⟨rfl, B1⟩)
    go_ret
    exact ⟨rfl, B1⟩
  · have q1 : ¬ (3000 : Int) < (NL : Int) := by omega
    by_cases h2 : 2000 < na
    · have q2 : (2000 : Int) < (na : Int) := by omega
      clear h
      go_enter Tryd.func7, Tryd.ntmps7
      go_wp2_with (go_at_call 10; refine (NA.out _).mono ?_; rintro e w1 ⟨rfl, B1⟩)
      go_ret
      exact ⟨rfl, B1⟩
    · have q2 : ¬ (2000 : Int) < (na : Int) := by omega
      have q3 : (2000 : Int) < (nb : Int) := by omega
      clear h
      go_enter Tryd.func7, Tryd.ntmps7
      go_wp2_with (go_at_call 10; refine (NA.out _).mono ?_; rintro e w1 ⟨rfl, B1⟩)
      go_ret
      exact ⟨rfl, B1⟩
theorem walk {H : Type} {enc : TypeId × Value → H} (w : World) (base : Nat) (v0 v1 v2 : Value) (d0 d1 d2 : DataW H) (p0 p1 p2 : List MemPlace)
    (k0 : Value.okWide Tryd.prog w .any base 9 v0) (k1 : Value.okWide Tryd.prog w .any base 29 v1) (k2 : Value.okWide Tryd.prog w .any base 29 v2)
    (h0 : DataW.Trod enc Tryd.prog w 0 (fun _ => true) true 9 v0 d0 p0) (h1 : DataW.Trod enc Tryd.prog w 0 (fun _ => true) true 29 v1 d1 p1) (h2 : DataW.Trod enc Tryd.prog w 0 (fun _ => true) true 29 v2 d2 p2) (tab : Tab w) :
    Calls Tryd.prog 7 #[v0, v1, v2] w fun e w' => e = .returned (.bool true) ∧ Below w.heap.size w w' := by
  obtain ⟨f, n, rfl, hn⟩ := open_text k0 h0
  obtain ⟨a, na, ca, fa, rfl, IA, _, _⟩ := open_bytes k1 h1
  obtain ⟨b, nb, cb, fb, rfl, IB, _, _⟩ := open_bytes k2 h2
  rw [of_sL]
  generalize (List.range n).map f = L at *
  by_cases h : 3000 < L.length ∨ 2000 < na ∨ 2000 < nb
  · exact backs_long L a b na nb ca cb w h
  · cases hr : rightB L with
    | false => exact backs_bad L a b na nb ca cb w (by omega) (by omega) (by omega) hr
    | true => exact backs L a b na nb ca cb fa fb w (by omega) (by omega) (by omega) IA IB hr
set_option maxRecDepth 100000 in
theorem lifted (os : Os) (started : os.Started) (H : Type) (enc : TypeId × Value → H) :
    ReturnsInHanded {} Tryd.checked os 7 .any (fun w args => (Rows.nameBackSpec.pre enc Tryd.prog Tryd.f7 [] false w args ∧ laidMetH Tryd.prog laids w) ∧ sizedMet enc Tryd.prog Tryd.f7 (OpenSpec.ofChange Rows.nameBackSpec) false w args)
      (Rows.nameBackSpec.post enc Tryd.prog Tryd.f7 false true false false) := by
  refine returnsInHanded_of_change_and (C := Tryd.checked) (X := fun w _ => laidMetH Tryd.prog laids w) (fun _ _ _ hh h => h.of_heap hh) own started (by kernel_rfl) Tryd.func7
    (ChangeSpec.witness_shaped (enc := enc) (C := Tryd.checked) (os := os) (X := fun w _ => laidMetH Tryd.prog laids w) false (World.laidAll Tryd.prog os laids) #[.string ⟨#[]⟩, .slice none 0 0, .slice none 0 0] 8 (World.laidAll_os _ _ _) (start_shaped os) (by kernel_rfl) (by kernel_rfl) (by kernel_rfl) (start_met os _)) ?_
  intro W base args ds gs before hval0 hW _ _ hL _
  have hval : ∀ (j : Nat) t v, Tryd.f7.params[j]? = some t → args[j]? = some v → Value.okWide Tryd.prog W .any base t v := hval0
  have hW' := hW
  obtain ⟨p, q, hA0, hV, rfl, hfz, hnd⟩ := hW
  have hA : DataW.TrodAll enc Tryd.prog W 0 (fun _ => true) true Tryd.f7.params.toList args.toList ds p := hA0
  rw [Tryd.params7] at hA hval
  obtain ⟨v0, vs0, d0, ds0, p0, q0, hargs, rfl, rfl, h0, r0⟩ := trodAll_cons hA
  obtain ⟨v1, vs1, d1, ds1, p1, q1, rfl, rfl, rfl, h1, r1⟩ := trodAll_cons r0
  obtain ⟨v2, vs2, d2, ds2, p2, q2, rfl, rfl, rfl, h2, r2⟩ := trodAll_cons r1
  obtain ⟨rfl, rfl, rfl⟩ := trodAll_nil r2
  obtain rfl : args = #[v0, v1, v2] := by cases args; simp_all
  obtain ⟨rfl, rfl⟩ := trodVars_none hV
  have k0 := h0
  have lt0 : ∀ x ∈ p0, x.block < W.heap.size := by obtain ⟨m, hm⟩ := k0; exact DataW.trod_lt m _ _ _ hm
  have k1 := h1
  have lt1 : ∀ x ∈ p1, x.block < W.heap.size := by obtain ⟨m, hm⟩ := k1; exact DataW.trod_lt m _ _ _ hm
  have k2 := h2
  have lt2 : ∀ x ∈ p2, x.block < W.heap.size := by obtain ⟨m, hm⟩ := k2; exact DataW.trod_lt m _ _ _ hm
  clear hA0 hval0
  refine (walk W base v0 v1 v2 d0 d1 d2 p0 p1 p2 (hval 0 9 v0 rfl rfl) (hval 1 29 v1 rfl rfl) (hval 2 29 v2 rfl rfl) k0 k1 k2 (tab_of_laid hL)).mono fun e W' ⟨he, bel⟩ => ?_
  subst he
  exact ⟨_, rfl, _, _, _, [], _, [], hW', trodAll_mk1 (shut_bool Tryd.underlying4 _), (trodAll_cons_mk (Below.trod laidOut (by kernel_rfl) (of_decide_eq_true (by kernel_rfl)) k0 bel lt0) (trodAll_cons_mk (Below.trod laidOut (by kernel_rfl) (of_decide_eq_true (by kernel_rfl)) k1 bel lt1) (trodAll_cons_mk (Below.trod laidOut (by kernel_rfl) (of_decide_eq_true (by kernel_rfl)) k2 bel lt2) trodAll_mk0))), rfl, bel.frame _, fun h => by cases h⟩
theorem over : Rows.NameBackSaid :=
  OpenClaim.holds_of_wide 7 Tryd.f7 rfl rfl rfl rfl rfl rfl rfl ⟨rfl, rfl, rfl, rfl, rfl⟩ rfl rfl rfl rfl rfl (by kernel_rfl) Tryd.func7 (by kernel_rfl)
    (of_decide_eq_true (by kernel_rfl)) (by unfold Func.isWrapper; first | (rw [if_pos (by decide +kernel)]; kernel_rfl) | (rw [if_neg (by decide +kernel)]; exact ⟨rfl, rfl⟩))
    (fun os started H enc _ => lifted os started H enc)
theorem proved : Rows.NameBackCardSaid :=
  Claim7.holds_tied_plain_at .later [] [.data, .pinned] true (true, "a336e95820cb47316d908a953aeda393682601dff52183cff9eb8b64e99883a2") false
    over (fun _ h => by cases h) (by kernel_rfl) (fun _ h => by cases h) nameBack_row_tie rfl ⟨rfl, rfl⟩ (by kernel_rfl) rfl
    (fun f fn hf hfn => by
      obtain rfl : f = 7 := Option.some.inj ((show Tryd.prog.funcNamed "rhyne/rhynelaw17.NameBack" = some 7 by kernel_rfl).symm.trans hf) |>.symm
      obtain rfl : fn = Tryd.f7 := (Option.some.inj (Tryd.func7.symm.trans hfn)).symm
      exact ⟨by kernel_rfl, fun j t ht => by
        rw [Tryd.params7] at ht
        have hm : t ∈ [9, 29, 29] := by simpa using Array.mem_of_getElem? ht
        have hall : ([9, 29, 29].all fun u => !Tryd.prog.wantsStandIn u) = true := by kernel_rfl
        exact (show Tryd.prog.wantsStandIn t = false by simpa using List.all_eq_true.1 hall t hm)⟩)
    (by kernel_rfl)
end Go.Proofs.YtddpfbeclmgndaaDoor.nameBack
