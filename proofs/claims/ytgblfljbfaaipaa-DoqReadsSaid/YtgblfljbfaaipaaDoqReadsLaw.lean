/-
  DoqReads holds: in every row of calls a reader of doq answers as the document says, a nil one, too; of all bytes Frame does. No conditions.
-/
import Derived.Test.YtgblfljbfaaipaaRows
import Derived.Test.YtgblfljbfaaipaaDoqG
import Derived.WalkKit
import Derived.ProofKit
import Derived.OpenShut
import Derived.ShutString
import Derived.ChangeOld
import Derived.Below
import Derived.Deep.DeepCutAuto
import Derived.Deep.Upon
import Derived.Deep.AppendSrc
import Derived.SizedLaws
namespace Go.Proofs.Ytgblfljbfaaipaa.doqReads
open Go Go.ChangeShapes Go.WideShapes Go.ChangeAt Go.RowKit Go.BigFrame
set_option linter.unusedVariables false
theorem own : ownKnob Try.prog.godebug = none := by kernel_rfl
theorem laidOut : laidOutB Try.prog = true := by kernel_rfl
def BT : TypeId := 42
set_option maxHeartbeats 40000000 in
set_option maxRecDepth 100000 in
theorem law_any (a : Option Addr) (n c : Nat) (M : Nat → Bool) (S : Nat → Nat → BitVec 8) (Z : Nat → Nat) (E : Nat → Bool) (b : Option Addr) (m bc : Nat) (f : Nat → BitVec 8) (w : World) (h : BitesIn w a n M S Z E) (hb : BytesIn w b m f) :
    Calls Try.prog 3 #[.slice a n c, .slice b m bc] w fun e w' => e = .returned (.bool true) ∧ Below w.heap.size w w' := by
  have HD := Lib.hid h
  have HIN := Lib.hid hb
  have BEL := Lib.hid (Below.refl w.heap.size w)
  clear h hb
  go_enter Try.func3, Try.ntmps3
  go_upto_region 2 with (first
    | (go_at_call 5; refine (none_any _).mono ?_; rintro e w' ⟨rfl, rfl⟩)
    | (go_at_call 6; refine (next_nil _).mono ?_; rintro e w' ⟨rfl, rfl⟩)
    | (go_at_call 8; refine (feed_nil _ ⟨_, rfl⟩ _).mono ?_; rintro e w' ⟨rfl, rfl⟩)
    | (go_at_call 9; refine (end_nil _).mono ?_; rintro e w' ⟨rfl, rfl⟩)
    | fail)
  by_cases hm : 100000 < m
  · have hmI : (m : Int) > 100000 := by omega
    go_wp2_with (first
    | (go_at_call 5; refine (none_any _).mono ?_; rintro e w' ⟨rfl, rfl⟩)
    | (go_at_call 6; refine (next_nil _).mono ?_; rintro e w' ⟨rfl, rfl⟩)
    | (go_at_call 8; refine (feed_nil _ ⟨_, rfl⟩ _).mono ?_; rintro e w' ⟨rfl, rfl⟩)
    | (go_at_call 9; refine (end_nil _).mono ?_; rintro e w' ⟨rfl, rfl⟩)
    | (go_at_call 7; refine (framed_any _).mono ?_; rintro e w1 ⟨rfl, T⟩; have BEL := Lib.hid (BEL.out.trans (T.mono BEL.out.size)); clear T))
    go_ret
    exact ⟨rfl, BEL.out⟩
  have hmI : ¬ (m : Int) > 100000 := by omega
  go_upto_region 4 with (first
    | (go_at_call 5; refine (none_any _).mono ?_; rintro e w' ⟨rfl, rfl⟩)
    | (go_at_call 6; refine (next_nil _).mono ?_; rintro e w' ⟨rfl, rfl⟩)
    | (go_at_call 8; refine (feed_nil _ ⟨_, rfl⟩ _).mono ?_; rintro e w' ⟨rfl, rfl⟩)
    | (go_at_call 9; refine (end_nil _).mono ?_; rintro e w' ⟨rfl, rfl⟩)
    | (go_at_call 7; refine (framed_any _).mono ?_; rintro e wa ⟨rfl, T⟩; have BEL := Lib.hid (BEL.out.trans (T.mono BEL.out.size)); clear T))
  have IN2 := bytesIn_later HIN.out BEL.out
  have cv := conv_in f b m bc wa IN2
  have FB := Lib.hid (frame_both b m bc f wa IN2)
  clear IN2
  generalize strOf f m = SF at *
  go_upto_region 5 with (go_at_call 10; refine FB.out.mono ?_; rintro e wb ⟨T1, x1, rfl, T, hf⟩; have HF := Lib.hid hf; clear hf; have BEL := Lib.hid (BEL.out.trans (T.mono BEL.out.size)); clear T)
  go_upto_region 6 with (go_at_call 11; refine HF.out.mono ?_; rintro e wc ⟨a1, n1, c1, rfl, T, cv2⟩; have BEL := Lib.hid (BEL.out.trans (T.mono BEL.out.size)); clear T)
  clear FB HF cv
  go_upto_region 8 with (fail)
  clear cv2
  have HP := Lib.hid (pair_new w.heap.size wc BEL.out.size)
  have hbz : Below w.heap.size w ((wc.alloc (.cells (rdC (.slice none 0 0) false) RT)).alloc (.cells (drC ⟨#[]⟩ false) DT)) := (BEL.out.alloc BEL.out.size _).alloc (by simp; exact Nat.le_succ_of_le BEL.out.size) _
  obtain ⟨wz, hwz⟩ : ∃ wz, (wc.alloc (.cells (rdC (.slice none 0 0) false) RT)).alloc (.cells (drC ⟨#[]⟩ false) DT) = wz := ⟨_, rfl⟩
  rw [hwz] at hbz HP
  have HBZ := Lib.hid hbz
  clear hbz
  have HZ := Lib.hid hwz
  clear hwz
  go_upto_region 9 with (fail)
  have e2 : (wc.alloc (.cells #[.slice none 0 0, .bool false] 37)).alloc (.cells #[.string ⟨#[]⟩, .bool false] 40) = wz := HZ.out
  rw [e2]
  clear e2 HZ
  generalize wc.heap.size = r at *
  go_wp2_with fail
  go_loopw [13, 14, 15, 16, 17, 18, 19] (fun s13 _ _ _ _ _ _ wr => ∃ i : Nat, i ≤ 60 ∧ s13 = .int .i64 (i : Int) ∧ Pair w.heap.size r (r + 1) wr ∧ Below w.heap.size w wr) (fun s13 _ _ _ _ _ _ _ => 60 - (intOf s13).toNat)
  case atStart => exact ⟨0, by omega, rfl, HP.out, HBZ.out⟩
  case round =>
    clear HP HBZ BEL
    obtain ⟨i, hi60, rfl, hI, bel⟩ := hrel
    have HI := Lib.hid hI
    have BEL := Lib.hid bel
    clear hI bel
    have done : Hid (∀ {K : Prop}, K → K) := Lib.hid (fun h => h)
    by_cases hlt : i < n ∧ i < 60
    · obtain ⟨hlt, h60⟩ := hlt
      have hltI : (i : Int) < (n : Int) := by omega
      have h60I : (i : Int) < 60 := by omega
      obtain ⟨hle, h0 | ⟨bb, off, rfl, hbl, hcell⟩⟩ := HD.out
      · omega
      obtain ⟨k0, k1, k2⟩ := hcell i hlt
      have k0 := (BEL.out.cell (p := ⟨bb, off + i * 3, none⟩) hbl).trans k0
      have k1 := (BEL.out.cell (p := ⟨bb, off + i * 3 + 1, none⟩) hbl).trans k1
      have k2 := (BEL.out.cell (p := ⟨bb, off + i * 3 + 2, none⟩) hbl).trans k2
      clear hcell hle
      generalize M i = Mi at *
      generalize E i = Ei at *
      generalize S i = Si at *
      generalize Z i = Zi at *
      have ez := strOf_size Si Zi
      have se := str_front Si Zi (min Zi 3000) (if (3000 : Int) < (Zi : Int) then 3000 else (Zi : Int)) (by split <;> omega) (by omega)
      have hk9 : min Zi 3000 ≤ 1000000000 := by omega
      generalize strOf Si Zi = ST at *
      go_upto_region 12 with (fail)
      go_upto_region 13 with (first
        | (with_reducible refine wpList_alloc_row (o := ⟨some 14, .alloc 42, _, _, _, _⟩) ?_ 42 ?_ #[.bool false, .string ⟨#[]⟩, .bool false] ?_ ?_; focus rfl; focus rfl; focus kernel_rfl)
        | (with_reducible refine wpList_store_new (o := ⟨none, .store 42 (.tmp 14) (.tmp 87), _, _, _, _⟩) ?_ 42 (.tmp 14) (.tmp 87) ?_ #[.bool false, .string ⟨#[]⟩, .bool false] #[.bool Mi, .string ST, .bool Ei] wr.heap.size ?_ ?_ ?_ ?_ ?_ ?_ ?_; focus rfl; focus rfl; focus rfl; focus rfl; focus rfl; focus kernel_rfl; focus rfl; focus rfl))
      have hb4 : Below wr.heap.size wr (wr.alloc (.cells #[.bool Mi, .string ST, .bool Ei] 42)) := (Below.refl _ _).alloc (Nat.le_refl _) _
      have R4 := heap_alloc_last wr (.cells #[.bool Mi, .string ST, .bool Ei] 42)
      have hi4 := HI.out.later hb4
      have bel4 := BEL.out.trans (hb4.mono BEL.out.size)
      generalize wr.alloc _ = w4 at *
      generalize wr.heap.size = q at *
      have HI4 := Lib.hid hi4
      have BEL4 := Lib.hid bel4
      clear hi4 bel4 hb4 HI BEL k0 k1 k2
      have q0 : w4.cell? ⟨q, 0, none⟩ = some (.bool Mi) := by rw [cell_of_row _ _ _ _ _ _ R4]; rfl
      have q1 : w4.cell? ⟨q, 1, none⟩ = some (.string ST) := by rw [cell_of_row _ _ _ _ _ _ R4]; rfl
      have q2 : w4.cell? ⟨q, 2, none⟩ = some (.bool Ei) := by rw [cell_of_row _ _ _ _ _ _ R4]; rfl
      clear R4
      have GF := Lib.hid (feed_both HI4.out Si (min Zi 3000) hk9)
      clear hk9
      generalize strOf Si (min Zi 3000) = SK at *
      go_upto_region 14 with (fail)
      try simp only [se]
      clear se
      cases Ei with
      | true =>
        have G1 := Lib.hid (end_both HI4.out)
        go_wp2_with (first
          | (go_at_call 9; refine (G1.out).mono ?_; rintro e w2 ⟨x, rfl, hq⟩; have G2 := Lib.hid hq; clear hq)
          | (go_at_call 12; refine (G2.out).mono ?_; rintro e w3 ⟨rfl, hI', hB'⟩; have HI' := Lib.hid hI'; have HB' := Lib.hid hB'; clear hI' hB'))
        go_roundw
        case rel => exact ⟨i + 1, by omega, by go_num, HI'.out, BEL4.out.trans HB'.out⟩
        case measure => (simp [intOf] <;> omega)
      | false =>
        cases Mi with
        | true =>
          have G1 := Lib.hid (GF.out)
          go_wp2_with (first
            | (go_at_call 8; refine (G1.out).mono ?_; rintro e w2 ⟨x, rfl, hq⟩; have G2 := Lib.hid hq; clear hq)
            | (go_at_call 13; refine (G2.out).mono ?_; rintro e w3 ⟨rfl, hI', hB'⟩; have HI' := Lib.hid hI'; have HB' := Lib.hid hB'; clear hI' hB'))
          go_roundw
          case rel => exact ⟨i + 1, by omega, by go_num, HI'.out, BEL4.out.trans HB'.out⟩
          case measure => (simp [intOf] <;> omega)
        | false =>
          have G1 := Lib.hid (next_both HI4.out)
          go_wp2_with (first
            | (go_at_call 6; refine (G1.out).mono ?_; rintro e w2 ⟨x, y, rfl, hq⟩; have G2 := Lib.hid hq; clear hq)
            | (go_at_call 14; refine (G2.out).mono ?_; rintro e w3 ⟨rfl, hI', hB'⟩; have HI' := Lib.hid hI'; have HB' := Lib.hid hB'; clear hI' hB'))
          go_roundw
          case rel => exact ⟨i + 1, by omega, by go_num, HI'.out, BEL4.out.trans HB'.out⟩
          case measure => (simp [intOf] <;> omega)
    · by_cases hl2 : i < n
      · have hltI : (i : Int) < (n : Int) := by omega
        have h60I : ¬ (i : Int) < 60 := by omega
        have GE := Lib.hid (end_both HI.out)
        go_wp2_with (first
          | (go_at_call 9; refine (GE.out).mono ?_; rintro e w2 ⟨x, rfl, hq⟩; have G2 := Lib.hid hq; clear hq)
          | (go_at_call 12; refine (G2.out).mono ?_; rintro e w3 ⟨rfl, hI', hB'⟩; have HB' := Lib.hid hB'; clear hI' hB'))
        go_ret
        exact ⟨rfl, BEL.out.trans HB'.out⟩
      · have hltI : ¬ (i : Int) < (n : Int) := by omega
        have GE := Lib.hid (end_both HI.out)
        go_wp2_with (first
          | (go_at_call 9; refine (GE.out).mono ?_; rintro e w2 ⟨x, rfl, hq⟩; have G2 := Lib.hid hq; clear hq)
          | (go_at_call 12; refine (G2.out).mono ?_; rintro e w3 ⟨rfl, hI', hB'⟩; have HB' := Lib.hid hB'; clear hI' hB'))
        go_ret
        exact ⟨rfl, BEL.out.trans HB'.out⟩
theorem walk {H : Type} {enc : TypeId × Value → H} (w : World) (base : Nat) (v0 v1 : Value) (d0 d1 : DataW H) (p0 p1 : List MemPlace)
    (k0 : Value.okWide Try.prog w .any base 22 v0) (k1 : Value.okWide Try.prog w .any base 23 v1)
    (h0 : DataW.Trod enc Try.prog w 0 (fun _ => true) true 22 v0 d0 p0) (h1 : DataW.Trod enc Try.prog w 0 (fun _ => true) true 23 v1 d1 p1) :
    Calls Try.prog 3 #[v0, v1] w fun e w' => e = .returned (.bool true) ∧ Below w.heap.size w w' := by
  obtain ⟨a, n, c, M, S, Z, E, rfl, h, _, _⟩ := open_bites k0 h0
  obtain ⟨b, m, bc, f, rfl, hb, _, _⟩ := open_bytes k1 h1
  exact law_any a n c M S Z E b m bc f w h hb
set_option maxRecDepth 100000 in
theorem lifted (os : Os) (started : os.Started) (H : Type) (enc : TypeId × Value → H) :
    ReturnsInHanded {} Try.checked os 3 .any (Rows.doqReadsSpec.pre6 enc Try.prog Try.f3 Rows.doqReadsRow.domain false) (Rows.doqReadsSpec.post enc Try.prog Try.f3 false true false false) := by
  refine returnsInHanded_of_change (C := Try.checked) own started (by kernel_rfl) Try.func3
    (ChangeSpec.witness6 (enc := enc) (C := Try.checked) false ⟨#[], #[.slice none 0 0, .slice none 0 0], []⟩ 8 (by kernel_rfl) (by kernel_rfl) (by kernel_rfl) (by kernel_rfl)) ?_
  intro W base args ds gs before hval0 hW hcnd _
  have hval : ∀ (j : Nat) t v, Try.f3.params[j]? = some t → args[j]? = some v → Value.okWide Try.prog W .any base t v := hval0
  have hW' := hW
  obtain ⟨p, q, hA0, hV, rfl, hfz, hnd⟩ := hW
  have hA : DataW.TrodAll enc Try.prog W 0 (fun _ => true) true Try.f3.params.toList args.toList ds p := hA0
  rw [Try.params3] at hA hval
  obtain ⟨v0, vs0, d0, ds0, p0, q0, hargs, rfl, rfl, h0, r0⟩ := trodAll_cons hA
  obtain ⟨v1, vs1, d1, ds1, p1, q1, rfl, rfl, rfl, h1, r1⟩ := trodAll_cons r0
  obtain ⟨rfl, rfl, rfl⟩ := trodAll_nil r1
  obtain rfl : args = #[v0, v1] := by cases args; simp_all
  obtain ⟨rfl, rfl⟩ := trodVars_none hV
  have k0 := h0
  have lt0 : ∀ x ∈ p0, x.block < W.heap.size := by obtain ⟨m, hm⟩ := k0; exact DataW.trod_lt m _ _ _ hm
  have k1 := h1
  have lt1 : ∀ x ∈ p1, x.block < W.heap.size := by obtain ⟨m, hm⟩ := k1; exact DataW.trod_lt m _ _ _ hm
  clear hA0 hval0
  refine (walk W base v0 v1 d0 d1 p0 p1 (hval 0 22 v0 rfl rfl) (hval 1 23 v1 rfl rfl) k0 k1).mono fun e W' ⟨he, bel⟩ => ?_
  subst he
  exact ⟨_, rfl, _, _, _, [], _, [], hW', trodAll_mk1 (shut_bool Try.underlying4 _), (trodAll_cons_mk (Below.trod laidOut (by kernel_rfl) (of_decide_eq_true (by kernel_rfl)) k0 bel lt0) (trodAll_cons_mk (Below.trod laidOut (by kernel_rfl) (of_decide_eq_true (by kernel_rfl)) k1 bel lt1) trodAll_mk0)), rfl, bel.frame _, fun h => by cases h⟩
theorem over : Rows.doqReadsRow.holds Try.pinned (OpenSpec.ofChange Rows.doqReadsSpec) :=
  OpenClaim.holds_of_wide 3 Try.f3 rfl rfl rfl rfl rfl rfl rfl ⟨rfl, rfl, rfl, rfl, rfl⟩ rfl rfl rfl rfl rfl (by kernel_rfl) Try.func3 (by kernel_rfl)
    (of_decide_eq_true (by kernel_rfl)) (by unfold Func.isWrapper; first | (rw [if_pos (by decide +kernel)]; kernel_rfl) | (rw [if_neg (by decide +kernel)]; exact ⟨rfl, rfl⟩))
    (fun os started H enc _ => lifted os started H enc)
theorem proved : Rows.DoqReadsSaid := over
end Go.Proofs.Ytgblfljbfaaipaa.doqReads
