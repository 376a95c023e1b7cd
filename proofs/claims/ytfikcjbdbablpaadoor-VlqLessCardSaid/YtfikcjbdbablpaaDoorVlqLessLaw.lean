/-
  A lesser number has not more bytes, of one count of bytes the lesser number's come first, and in more bytes it is the same number, at the commit of COMMIT; the tables of math/bits hold what the program's text lays.
-/
import Derived.Test.YtfikcjbdbablpaaDoorRows
import Derived.Test.YtfikcjbdbablpaaDoorCards
import Derived.Test.YtfikcjbdbablpaaDoorTie
import Derived.Test.YtfikcjbdbablpaaDoorDoor
import Derived.Test.YtfikcjbdbablpaaDoorVlqG
import Derived.Test.YtfikcjbdbablpaaDoorOpenB
import Derived.WalkKit
import Derived.ProofKit
import Derived.OpenShut
import Derived.ShutString
import Derived.ChangeOld
import Derived.Below
import Derived.Deep.DeepCutAuto
import Derived.Deep.Upon
import Derived.Deep.AppendSrc
import Derived.SevenTiedAt
import Derived.LaidMore
namespace Go.Proofs.YtfikcjbdbablpaaDoor.vlqLess
open Go Go.ChangeShapes Go.WideShapes Go.ChangeAt Go.RowKit Go.BigFrame
set_option linter.unusedVariables false
set_option maxRecDepth 100000 in
set_option maxHeartbeats 16000000 in
theorem less_any (x y : BitVec 64) (w : World) (tab : Tab w) :
    Calls Tryd.prog 8 #[.int .u64 (n64 x), .int .u64 (n64 y)] w fun e w' => e = .returned (.bool true) ∧ Below w.heap.size w w' := by
  have T0 := Lib.hid tab
  go_enter Tryd.func8, Tryd.ntmps8
  go_wp2_with fail
  have ha := top_lt x
  have hb := top_lt y
  generalize x &&& 4611686018427387903#64 = a at *
  generalize y &&& 4611686018427387903#64 = b at *
  have hka := least_lt a
  have hfa := least_fits a ha
  have hfb := least_fits b hb
  have C1 := Lib.hid (put_uint64_ok a ha w tab)
  have C2 := Lib.hid (fun w tab => put_uint64_ok b hb w tab)
  have IN := Lib.hid (fun (k : Nat) (hk : k < 4) (hle : least a ≤ k) => putIn_uint64_ok a k hk (fits_more hle hfa))
  have GB := Lib.hid (fun (k : Nat) (hk : k < 4) (hle : least a ≤ k) => gotten_back a k hk (fits_more hle hfa))
  have cases4 : ∃ (P Q : Nat) (L : Bool), P = 2 ^ least a ∧ Q = 2 ^ least b ∧ P ≤ 8 ∧ Q ≤ 8 ∧ (a.toNat < b.toNat ∧ P ≤ Q ∧ (P = Q → L = true) ∨ ¬ a.toNat < b.toNat ∧ (P = Q → L = false)) ∧ (P = Q → Op.bytesLess (strOf (vbyte a (least a)) P).toList (strOf (vbyte b (least b)) Q).toList = L) := by
    have hp : ∀ k, k < 4 → 2 ^ k ≤ 8 := fun k hk => Nat.le_trans (Nat.pow_le_pow_right (by decide) (by omega : k ≤ 3)) (by decide)
    refine ⟨_, _, decide (a.toNat < b.toNat), rfl, rfl, hp _ hka, hp _ (least_lt b), ?_, fun h => ?_⟩
    · by_cases h : a.toNat < b.toNat
      · exact .inl ⟨h, Nat.pow_le_pow_right (by decide) (least_mono (Nat.le_of_lt h)), fun _ => by simp [h]⟩
      · exact .inr ⟨h, fun _ => by simp [h]⟩
    · have inj : ∀ i, i < 4 → ∀ j, j < 4 → 2 ^ i = 2 ^ j → i = j := by decide
      have he : least a = least b := inj _ hka _ (least_lt b) h
      rw [he] at hfa ⊢
      exact less_str a b (least b) (least_lt b) hfa hfb
  obtain ⟨P, Q, L, hP, hQ, hP8, hQ8, hcase, hL⟩ := cases4
  clear ha hb hfa hfb tab
  with_reducible refine C1.out.mono ?_
  rintro e w1 ⟨r1, rfl, h1⟩
  have H1 := Lib.hid h1
  clear h1
  go_wp2_with fail
  with_reducible refine (C2.out w1 (T0.out.later H1.out.below)).mono ?_
  rintro e w2 ⟨r2, rfl, h2⟩
  have K1 := Lib.hid (H1.out.later h2.below)
  have H2 := Lib.hid h2
  clear h2 H1
  go_wp2_with fail
  refine (counts_any w2 (T0.out.later K1.out.below)).mono ?_
  rintro e w3 ⟨rfl, b3⟩
  have K3 := Lib.hid (K1.out.later b3)
  have cva := conv_bytes K3.out (2 ^ least a)
  have cvb := conv_bytes (H2.out.later b3) (2 ^ least b)
  have B3 := Lib.hid K3.out.below
  clear b3 K1 H2 K3
  rw [← hP] at cva
  rw [← hQ] at cvb
  simp only [← hP, ← hQ]
  have HP := Lib.hid hP
  clear hP hQ
  generalize strOf (vbyte a (least a)) P = sa at *
  generalize strOf (vbyte b (least b)) Q = sb at *
  have h8 : (P : Int) ≤ 8 := by omega
  have hcase' : (n64 a < n64 b ∧ P ≤ Q ∧ (P = Q → L = true)) ∨ (n64 b ≤ n64 a ∧ (P = Q → L = false)) := by
    rw [n64_nat, n64_nat]
    rcases hcase with ⟨h1, h2, h3⟩ | ⟨h1, h2⟩
    · exact .inl ⟨by omega, h2, h3⟩
    · exact .inr ⟨by omega, h2⟩
  clear hcase
  have split4 : (P = Q ∧ n64 a < n64 b ∧ Op.bytesLess sa.toList sb.toList = true) ∨ (P = Q ∧ n64 b ≤ n64 a ∧ Op.bytesLess sa.toList sb.toList = false) ∨ (P < Q ∧ n64 a < n64 b) ∨ (P ≠ Q ∧ n64 b ≤ n64 a) := by
    rcases hcase' with ⟨h1, h2, h3⟩ | ⟨h1, h2⟩
    · by_cases hpq : P = Q
      · exact .inl ⟨hpq, h1, (hL hpq).trans (h3 hpq)⟩
      · exact .inr (.inr (.inl ⟨by omega, h1⟩))
    · by_cases hpq : P = Q
      · exact .inr (.inl ⟨hpq, h1, (hL hpq).trans (h2 hpq)⟩)
      · exact .inr (.inr (.inr ⟨hpq, h1⟩))
  clear hcase' hL
  obtain ⟨rfl, h1, h2⟩ | ⟨rfl, h1, h2⟩ | ⟨h1, h2⟩ | ⟨h1, h2⟩ := split4
  all_goals
    first
      | (have e1 : decide (Q < P) = false := decide_eq_false (by omega); have e2 : ((P : Int) == (Q : Int)) = false := beq_eq_false_iff_ne.2 (by omega))
      | (have e1 := trivial; have e2 : ((P : Int) == (Q : Int)) = false := beq_eq_false_iff_ne.2 (by omega))
      | (have e1 := trivial; have e2 := trivial)
    go_wp2_with fail
    clear cva cvb h1 h2 h8 e1 e2
    go_loopw [9] (fun s9 wr => ∃ k n : Nat, least a ≤ k ∧ k ≤ 4 ∧ n = 2 ^ k ∧ s9 = .int .i64 (n : Int) ∧ Below w.heap.size w wr) (fun s9 _ => 16 - (intOf s9).toNat)
    case atStart => exact ⟨least a, _, Nat.le_refl _, by omega, HP.out, rfl, B3.out⟩
    case round =>
      obtain ⟨k, n, hle, hk4, hn, rfl, hb⟩ := hrel
      have HB := Lib.hid hb
      clear hb
      by_cases hlt : k < 4
      · have hn8 : n ≤ 8 := by rw [hn]; exact Nat.le_trans (Nat.pow_le_pow_right (by decide) (by omega : k ≤ 3)) (by decide)
        have hnn : 2 * n = 2 ^ (k + 1) := by rw [hn, Nat.pow_succ]; omega
        have hpos : 0 < n := by rw [hn]; exact Nat.two_pow_pos k
        have i1 := IN.out k hlt hle wr (T0.out.later HB.out)
        have g1 := GB.out k hlt hle
        unfold PutOk at i1
        rw [← hn] at i1 g1
        have I1 := Lib.hid i1
        have G1 := Lib.hid g1
        have HN := Lib.hid hn
        have HNN := Lib.hid hnn
        clear i1 g1 hn hnn
        go_wp2_with fail
        with_reducible refine I1.out.mono ?_
        rintro e w' ⟨r, rfl, hr⟩
        have gg := get_any (vbyte a k) (some ⟨r, 0, none⟩) n n w' (hr.bytesIn (by unfold maxLen; omega)) (Nat.le_refl _) (by unfold maxLen; omega)
        rw [G1.out] at gg
        have GG := Lib.hid gg
        have HB2 := Lib.hid (HB.out.trans (hr.below.mono HB.out.size))
        clear gg hr
        go_wp2_with fail
        with_reducible refine GG.out.mono ?_
        rintro e w' ⟨rfl, rfl⟩
        go_wp2_with fail
        go_roundw
        case rel =>
          have en : Value.int .i64 ((n : Int) * 2) = .int .i64 ((2 * n : Nat) : Int) := by congr 1; omega
          first
            | exact ⟨k + 1, 2 * n, by omega, by omega, HNN.out, en, HB2.out⟩
            | ((repeat apply Exists.intro); exact ⟨⟨k + 1, 2 * n, by omega, by omega, HNN.out, en, HB2.out⟩, rfl⟩)
        case measure => simp [intOf]; omega
      · obtain rfl : k = 4 := by omega
        obtain rfl : n = 16 := hn
        go_wp2_with fail
        go_ret
        exact ⟨rfl, HB.out⟩
set_option maxRecDepth 100000 in
theorem walk {H : Type} {enc : TypeId × Value → H} (w : World) (base : Nat) (v0 v1 : Value) (d0 d1 : DataW H) (p0 p1 : List MemPlace)
    (k0 : Value.okWide Tryd.prog w .any base 22 v0) (k1 : Value.okWide Tryd.prog w .any base 22 v1)
    (h0 : DataW.Trod enc Tryd.prog w 0 (fun _ => true) true 22 v0 d0 p0) (h1 : DataW.Trod enc Tryd.prog w 0 (fun _ => true) true 22 v1 d1 p1) (tab : Tab w) :
    Calls Tryd.prog 8 #[v0, v1] w fun e w' => e = .returned (.bool true) ∧ Below w.heap.size w w' := by
  obtain ⟨x, rfl, rfl, rfl, wx⟩ := open_int Tryd.underlying22 k0 h0
  obtain ⟨y, rfl, rfl, rfl, wy⟩ := open_int Tryd.underlying22 k1 h1
  rw [n64_of_wf x wx, n64_of_wf y wy]
  exact less_any _ _ w tab
set_option maxRecDepth 100000 in
theorem lifted (os : Os) (started : os.Started) (H : Type) (enc : TypeId × Value → H) :
    ReturnsInHanded {} Tryd.checked os 8 .any (fun w args => (Rows.vlqLessSpec.pre enc Tryd.prog Tryd.f8 [] false w args ∧ laidMetH Tryd.prog laids w) ∧ sizedMet enc Tryd.prog Tryd.f8 (OpenSpec.ofChange Rows.vlqLessSpec) false w args)
      (Rows.vlqLessSpec.post enc Tryd.prog Tryd.f8 false true false false) := by
  refine returnsInHanded_of_change_and (C := Tryd.checked) (X := fun w _ => laidMetH Tryd.prog laids w) (fun _ _ _ hh h => h.of_heap hh) own started (by kernel_rfl) Tryd.func8
    (ChangeSpec.witness_shaped (enc := enc) (C := Tryd.checked) (os := os) (X := fun w _ => laidMetH Tryd.prog laids w) false (World.doorLaid Tryd.prog 19 os) #[.int .u64 0, .int .u64 0] 8 rfl (World.shaped_of_RefB (by kernel_rfl) (by kernel_rfl)) (by kernel_rfl) (by kernel_rfl) (by kernel_rfl) (door_met os _)) ?_
  intro W base args ds gs before hval0 hW _ _ hL _
  have hval : ∀ (j : Nat) t v, Tryd.f8.params[j]? = some t → args[j]? = some v → Value.okWide Tryd.prog W .any base t v := hval0
  have hW' := hW
  obtain ⟨p, q, hA0, hV, rfl, hfz, hnd⟩ := hW
  have hA : DataW.TrodAll enc Tryd.prog W 0 (fun _ => true) true Tryd.f8.params.toList args.toList ds p := hA0
  rw [Tryd.params8] at hA hval
  obtain ⟨v0, vs0, d0, ds0, p0, q0, hargs, rfl, rfl, h0, r0⟩ := trodAll_cons hA
  obtain ⟨v1, vs1, d1, ds1, p1, q1, rfl, rfl, rfl, h1, r1⟩ := trodAll_cons r0
  obtain ⟨rfl, rfl, rfl⟩ := trodAll_nil r1
  obtain rfl : args = #[v0, v1] := by cases args; simp_all
  obtain ⟨rfl, rfl⟩ := trodVars_none hV
  have k0 := h0
  have lt0 : ∀ x ∈ p0, x.block < W.heap.size := by obtain ⟨m, hm⟩ := k0; exact DataW.trod_lt m _ _ _ hm
  have k1 := h1
  have lt1 : ∀ x ∈ p1, x.block < W.heap.size := by obtain ⟨m, hm⟩ := k1; exact DataW.trod_lt m _ _ _ hm
  clear hA0 hval0
  refine (walk W base v0 v1 d0 d1 p0 p1 (hval 0 22 v0 rfl rfl) (hval 1 22 v1 rfl rfl) k0 k1 (tab_of_laid hL)).mono fun e W' ⟨he, bel⟩ => ?_
  subst he
  exact ⟨_, rfl, _, _, _, [], _, [], hW', trodAll_mk1 (shut_bool Tryd.underlying4 _), (trodAll_cons_mk (Below.trod laidOut (by kernel_rfl) (of_decide_eq_true (by kernel_rfl)) k0 bel lt0) (trodAll_cons_mk (Below.trod laidOut (by kernel_rfl) (of_decide_eq_true (by kernel_rfl)) k1 bel lt1) trodAll_mk0)), rfl, bel.frame _, fun h => by cases h⟩
theorem over : Rows.VlqLessSaid :=
  OpenClaim.holds_of_wide 8 Tryd.f8 rfl rfl rfl rfl rfl rfl rfl ⟨rfl, rfl, rfl, rfl, rfl⟩ rfl rfl rfl rfl rfl (by kernel_rfl) Tryd.func8 (by kernel_rfl)
    (of_decide_eq_true (by kernel_rfl)) (by unfold Func.isWrapper; first | (rw [if_pos (by decide +kernel)]; kernel_rfl) | (rw [if_neg (by decide +kernel)]; exact ⟨rfl, rfl⟩))
    (fun os started H enc _ => lifted os started H enc)
theorem proved : Rows.VlqLessCardSaid :=
  Claim7.holds_tied_plain_at .later [] [.data, .data] true (true, "e64395a9766b199dc9aae543bb771f0a2c891cedd0dc0b094b7c817878d5574e") false
    over (fun _ h => by cases h) (by kernel_rfl) (fun _ h => by cases h) vlqLess_row_tie rfl ⟨rfl, rfl⟩ (by kernel_rfl) rfl
    (fun f fn hf hfn => by
      obtain rfl : f = 8 := Option.some.inj ((show Tryd.prog.funcNamed "rhyne/rhynelaw07.VlqLess" = some 8 by kernel_rfl).symm.trans hf) |>.symm
      obtain rfl : fn = Tryd.f8 := (Option.some.inj (Tryd.func8.symm.trans hfn)).symm
      exact ⟨by kernel_rfl, fun j t ht => by
        rw [Tryd.params8] at ht
        have hm : t ∈ [22, 22] := by simpa using Array.mem_of_getElem? ht
        have hall : ([22, 22].all fun u => !Tryd.prog.wantsStandIn u) = true := by kernel_rfl
        exact (show Tryd.prog.wantsStandIn t = false by simpa using List.all_eq_true.1 hall t hm)⟩)
    (by kernel_rfl)
end Go.Proofs.YtfikcjbdbablpaaDoor.vlqLess
