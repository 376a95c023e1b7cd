/-
  In every row of steps a schedule tells what the chapter does, at the commit of COMMIT; the table of sha's constants holds what the program's text lays.
-/
import Derived.Test.YtbadcknchamimabDoorRows
import Derived.Test.YtbadcknchamimabDoorCards
import Derived.Test.YtbadcknchamimabDoorTie
import Derived.Test.YtbadcknchamimabDoorShaDoor
import Derived.Test.YtbadcknchamimabDoorHkdfH
import Derived.Test.YtbadcknchamimabDoorUses
import Derived.WalkKit
import Derived.ProofKit
import Derived.OpenShut
import Derived.ShutString
import Derived.ChangeOld
import Derived.Below
import Derived.Deep.DeepCutAuto
import Derived.Deep.Upon
import Derived.Deep.AppendSrc
import Derived.SevenTiedAt
import Derived.LaidMore
import Derived.SizedLaws
import Derived.Lib.SmallJoins
namespace Go.Proofs.YtbadcknchamimabDoor.hkdfSchedule
open Go Go.ChangeShapes Go.WideShapes Go.ChangeAt Go.RowKit Go.BigFrame
set_option linter.unusedVariables false
def endF (i : Nat) : BitVec 8 := if i = 0 then 101#8 else if i = 1 then 110#8 else 100#8
theorem end_str : strOf endF 3 = ⟨#[101, 110, 100]⟩ := by kernel_rfl
set_option maxRecDepth 100000 in
set_option maxHeartbeats 16000000 in
theorem law_any (a : Option Addr) (n c : Nat) (M : Nat → Bool) (S : Nat → Nat → BitVec 8) (Z : Nat → Nat) (A : Nat → Option Addr) (L C : Nat → Nat) (F : Nat → Nat → BitVec 8) (w : World) (T : TabK w) (hu : UsesIn w a n M S Z A L C F) (hc : n ≤ c) (hcm : c ≤ maxLen) :
    Calls Tryd.prog 6 #[.slice a n c] w fun e w' => e = .returned (.bool true) ∧ Below w.heap.size w w' := by
  have HU := Lib.hid hu
  have TK := Lib.hid T
  clear hu T
  go_enter Tryd.func6, Tryd.ntmps6
  go_wp2_with fail
  with_reducible refine (none_any w).mono ?_
  rintro e w0 ⟨rfl, rfl⟩
  go_wp2_with fail
  with_reducible refine (mix_nil _ _ _ w).mono ?_
  rintro e w0 ⟨rfl, rfl⟩
  go_wp2_with fail
  with_reducible refine (none_any w).mono ?_
  rintro e w0 ⟨rfl, rfl⟩
  go_wp2_with fail
  with_reducible refine (derive_nil _ _ _ _ w).mono ?_
  rintro e w0 ⟨rfl, rfl⟩
  go_wp2_with fail
  with_reducible refine (expands_any w TK.out).mono ?_
  rintro e w1 ⟨rfl, hb1⟩
  go_wp2_with fail
  with_reducible refine (hnew_any w1).mono ?_
  rintro e w2 ⟨rfl, st2, hb2⟩
  obtain ⟨b, hbd⟩ : ∃ b, w1.heap.size = b := ⟨_, rfl⟩
  have hwb : w.heap.size ≤ b := by rw [← hbd]; exact hb1.size
  have B2 := hb1.trans (hb2.mono hb1.size)
  rw [hbd] at st2 ⊢
  have ST2 := Lib.hid st2
  have BB2 := Lib.hid B2
  clear hbd hb2 hb1 B2 st2
  go_wp2_with fail
  with_reducible refine (first_any w2).mono ?_
  rintro e w3 ⟨rfl, hb3⟩
  have ST3 := Lib.hid (ST2.out.later hb3)
  have B3 := Lib.hid (BB2.out.trans (hb3.mono BB2.out.size))
  clear hb3 ST2 BB2
  have EE : Hid (∀ (o : Option Nat) (p : Nat → BitVec 8) (w' : World), SchedSt w' b o p → Below w.heap.size w w' → Calls Tryd.prog 17 #[.pointer (some ⟨b, 0, none⟩), .string ⟨#[101, 110, 100]⟩, .slice none 0 0] w'
      fun e w'' => ∃ v, e = .returned (.tuple #[v, .int .i64 0]) ∧ Own w'.heap.size v 32 (derB p endF 3 (fun _ => 0#8) 0) w'' ∧ Below w'.heap.size w' w'') := Lib.hid (fun o p w' h hb => by
    have h := derive_any b o 3 endF p (fun _ => 0#8) none 0 0 w' (TK.out.later hb) h (nil_in _ _) (Nat.le_refl _) (Nat.zero_le _) (by omega)
    rw [end_str, errOf_ok (by omega)] at h
    refine h.mono ?_
    rintro e w'' ⟨v, rfl, h1 | h1, h2⟩
    · exact ⟨v, rfl, h1.2, h2⟩
    · exact absurd (by omega) h1.1)
  have ED : Hid (∀ (p : Nat → BitVec 8) (w' : World), Calls Tryd.prog 21 #[.string (strOf p 32), .string ⟨#[101, 110, 100]⟩, .string ⟨#[]⟩] w'
      fun e w'' => e = .returned (.tuple #[.string (strOf (derB p endF 3 (fun _ => 0#8) 0) 32), .int .i64 0]) ∧ Below w'.heap.size w' w'') := Lib.hid (fun p w' => by
    have h := docDerive_any 3 endF p (fun _ => 0#8) 0 (by omega) w'
    rw [end_str, str_none, errOf_ok (by omega)] at h
    have e : derS 3 (derB p endF 3 (fun _ => 0#8) 0) = strOf (derB p endF 3 (fun _ => 0#8) 0) 32 := by unfold derS; rw [if_pos (by omega)]
    rw [e] at h
    exact h)
  go_wp2_with fail
  go_loopw [6, 7] (fun s6 s7 wr => ∃ (i : Nat) (o : Option Nat) (p : Nat → BitVec 8), i ≤ n ∧ i ≤ 15 ∧ s7 = .int .i64 (i : Int) ∧ s6 = .string (strOf p 32) ∧ SchedSt wr b o p ∧ Below w.heap.size w wr) (fun _ s7 _ => 15 - (intOf s7).toNat)
  case atStart => exact ⟨0, none, firstB, Nat.zero_le _, Nat.zero_le _, rfl, rfl, ST3.out, B3.out⟩
  case round =>
    clear ST3 B3
    obtain ⟨i, o, p, hin, hi15, rfl, rfl, hst, bel⟩ := hrel
    obtain ⟨SP, hSP⟩ : ∃ SP, strOf p 32 = SP := ⟨_, rfl⟩
    rw [hSP]
    have HSP := Lib.hid hSP
    have hbr := bel.size
    obtain ⟨hbl, hol⟩ := hst.lt
    have ST := Lib.hid hst
    have BEL := Lib.hid bel
    have HOL := Lib.hid hol
    clear hst bel hol hSP
    by_cases hlt : i < n ∧ i < 15
    · obtain ⟨hln, hl15⟩ := hlt
      have hnI : (i : Int) < (n : Int) := by omega
      have h3I : (i : Int) < 15 := by omega
      have PR := HU.out.later BEL.out
      obtain ⟨pb, po, rfl, hpb, hpc⟩ : ∃ b off, a = some ⟨b, off, none⟩ ∧ b < wr.heap.size ∧ ∀ i, i < n → wr.cell? ⟨b, off + i * 3, none⟩ = some (.bool (M i)) ∧ wr.cell? ⟨b, off + i * 3 + 1, none⟩ = some (.string (strOf (S i) (Z i))) ∧ wr.cell? ⟨b, off + i * 3 + 2, none⟩ = some (.slice (A i) (L i) (C i)) := by
        rcases PR.cells with h0 | h1
        · omega
        · exact h1
      obtain ⟨hbi, hlc, hcl⟩ := PR.each i hln
      have PC := Lib.hid (fun (w' : World) (hb : Below wr.heap.size wr w') => (show w'.cell? ⟨pb, po + i * 3, none⟩ = some (.bool (M i)) ∧ w'.cell? ⟨pb, po + i * 3 + 1, none⟩ = some (.string (strOf (S i) (Z i))) ∧ w'.cell? ⟨pb, po + i * 3 + 2, none⟩ = some (.slice (A i) (L i) (C i)) from
        ⟨by rw [hb.cell (p := ⟨pb, po + i * 3, none⟩) hpb]; exact (hpc i hln).1, by rw [hb.cell (p := ⟨pb, po + i * 3 + 1, none⟩) hpb]; exact (hpc i hln).2.1, by rw [hb.cell (p := ⟨pb, po + i * 3 + 2, none⟩) hpb]; exact (hpc i hln).2.2⟩))
      obtain ⟨k, hk⟩ : ∃ k, min (L i) 300 = k := ⟨_, rfl⟩
      have hkl : k ≤ L i := by omega
      have hk300 : k ≤ 300 := by omega
      have HK := Lib.hid hk
      have BI := Lib.hid (bytesIn_upto hbi hkl)
      clear hpc hpb hk hbi
      go_upto_region 9 with fail
      go_cut [8] (fun v8 wx => Own wr.heap.size v8 k (F i) wx ∧ Below wr.heap.size wr wx ∧ wr.heap.size < wx.heap.size)
      case first =>
        have hmin : (if 300 < (L i : Int) then 300 else (L i : Int)) = (k : Int) := by
          have := HK.out
          by_cases h : L i ≤ 300
          · rw [if_neg (by omega)]; omega
          · rw [if_pos (by omega)]; omega
        have HM := Lib.hid hmin
        have hsu := fun w' => run_upto w' (A i) k (L i) (C i) hkl hlc
        clear hmin
        refine region_anyM mixedOrders ?_
        refine anyM_take (i := 1) (oi := ⟨some 45, _, _, _, _, _⟩) (v := .slice (some ⟨pb, po, none⟩) n c) rfl (by kernel_rfl) (by kernel_rfl) (by kernel_rfl) (fun _ _ _ h => h) (.inl ⟨by rfl, fun w2 hw2 => ?_⟩) ?_
        · clear hw2
          go_simp
        simp only [Act.put, List.setIfInBounds_toArray, List.set_cons_succ, List.set_cons_zero]
        refine anyM_take (i := 2) (oi := ⟨some 46, _, _, _, _, _⟩) (v := .int .i64 (i : Int)) rfl (by kernel_rfl) (by kernel_rfl) (by kernel_rfl) (fun _ _ _ h => h) (.inl ⟨by rfl, fun w2 hw2 => ?_⟩) ?_
        · clear hw2
          go_simp
        simp only [Act.put, List.setIfInBounds_toArray, List.set_cons_succ, List.set_cons_zero]
        refine anyM_take (i := 3) (oi := ⟨some 47, _, _, _, _, _⟩) (v := .pointer (some ⟨pb, po + i * 3, none⟩)) rfl (by kernel_rfl) (by kernel_rfl) (by kernel_rfl) (fun _ _ _ h => h) (.inl ⟨by rfl, fun w2 hw2 => ?_⟩) ?_
        · clear hw2
          go_simp
        simp only [Act.put, List.setIfInBounds_toArray, List.set_cons_succ, List.set_cons_zero]
        refine anyM_take (i := 4) (oi := ⟨some 48, _, _, _, _, _⟩) (v := .pointer (some ⟨pb, po + i * 3 + 2, none⟩)) rfl (by kernel_rfl) (by kernel_rfl) (by kernel_rfl) (fun _ _ _ h => h) (.inl ⟨by rfl, fun w2 hw2 => ?_⟩) ?_
        · clear hw2
          go_simp
        simp only [Act.put, List.setIfInBounds_toArray, List.set_cons_succ, List.set_cons_zero]
        refine anyM_take (i := 5) (oi := ⟨some 49, _, _, _, _, _⟩) (v := .slice (A i) (L i) (C i)) rfl (by kernel_rfl) (by kernel_rfl) (by kernel_rfl) (fun _ _ _ h => h) (.inl ⟨by rfl, fun w2 hw2 => ?_⟩) ?_
        · have pc := (PC.out w2 (ext_below hw2 (Below.refl _ _).drew (Nat.le_refl _))).2.2
          clear hw2
          go_simp
        simp only [Act.put, List.setIfInBounds_toArray, List.set_cons_succ, List.set_cons_zero]
        refine anyM_take (i := 6) (oi := ⟨some 50, _, _, _, _, _⟩) (v := .slice (some ⟨pb, po, none⟩) n c) rfl (by kernel_rfl) (by kernel_rfl) (by kernel_rfl) (fun _ _ _ h => h) (.inl ⟨by rfl, fun w2 hw2 => ?_⟩) ?_
        · clear hw2
          go_simp
        simp only [Act.put, List.setIfInBounds_toArray, List.set_cons_succ, List.set_cons_zero]
        refine anyM_take (i := 7) (oi := ⟨some 51, _, _, _, _, _⟩) (v := .int .i64 (i : Int)) rfl (by kernel_rfl) (by kernel_rfl) (by kernel_rfl) (fun _ _ _ h => h) (.inl ⟨by rfl, fun w2 hw2 => ?_⟩) ?_
        · clear hw2
          go_simp
        simp only [Act.put, List.setIfInBounds_toArray, List.set_cons_succ, List.set_cons_zero]
        refine anyM_take (i := 8) (oi := ⟨some 52, _, _, _, _, _⟩) (v := .pointer (some ⟨pb, po + i * 3, none⟩)) rfl (by kernel_rfl) (by kernel_rfl) (by kernel_rfl) (fun _ _ _ h => h) (.inl ⟨by rfl, fun w2 hw2 => ?_⟩) ?_
        · clear hw2
          go_simp
        simp only [Act.put, List.setIfInBounds_toArray, List.set_cons_succ, List.set_cons_zero]
        refine anyM_take (i := 9) (oi := ⟨some 53, _, _, _, _, _⟩) (v := .pointer (some ⟨pb, po + i * 3 + 2, none⟩)) rfl (by kernel_rfl) (by kernel_rfl) (by kernel_rfl) (fun _ _ _ h => h) (.inl ⟨by rfl, fun w2 hw2 => ?_⟩) ?_
        · clear hw2
          go_simp
        simp only [Act.put, List.setIfInBounds_toArray, List.set_cons_succ, List.set_cons_zero]
        refine anyM_take (i := 10) (oi := ⟨some 54, _, _, _, _, _⟩) (v := .slice (A i) (L i) (C i)) rfl (by kernel_rfl) (by kernel_rfl) (by kernel_rfl) (fun _ _ _ h => h) (.inl ⟨by rfl, fun w2 hw2 => ?_⟩) ?_
        · have pc := (PC.out w2 (ext_below hw2 (Below.refl _ _).drew (Nat.le_refl _))).2.2
          clear hw2
          go_simp
        simp only [Act.put, List.setIfInBounds_toArray, List.set_cons_succ, List.set_cons_zero]
        refine anyM_take (i := 11) (oi := ⟨some 55, _, _, _, _, _⟩) (v := .int .i64 (L i : Int)) rfl (by kernel_rfl) (by kernel_rfl) (by kernel_rfl) (fun _ _ _ h => h) (.inl ⟨by rfl, fun w2 hw2 => ?_⟩) ?_
        · clear hw2
          go_simp
        simp only [Act.put, List.setIfInBounds_toArray, List.set_cons_succ, List.set_cons_zero]
        refine anyM_take (i := 12) (oi := ⟨some 56, _, _, _, _, _⟩) (v := .int .i64 (k : Int)) rfl (by kernel_rfl) (by kernel_rfl) (by kernel_rfl) (fun _ _ _ h => h) (.inl ⟨by rfl, fun w2 hw2 => ?_⟩) ?_
        · have hm := HM.out
          clear hw2
          go_simp
        simp only [Act.put, List.setIfInBounds_toArray, List.set_cons_succ, List.set_cons_zero]
        refine anyM_take (i := 13) (oi := ⟨some 57, _, _, _, _, _⟩) (v := .slice (A i) k (C i)) rfl (by kernel_rfl) (by kernel_rfl) (by kernel_rfl) (fun _ _ _ h => h) (.inl ⟨by rfl, fun w2 hw2 => ?_⟩) ?_
        · clear hw2
          go_simp
        simp only [Act.put, List.setIfInBounds_toArray, List.set_cons_succ, List.set_cons_zero]
        refine anyM_only (i := 0) (o := ⟨some 44, _, _, _, _, _⟩) (by kernel_rfl) rfl (by rfl) (fun w2 hw2 => ⟨.slice (some ⟨w2.heap.size, 0, none⟩) 0 0, w2.alloc (.cells #[] 5), by go_simp, (Below.refl _ _).alloc (Nat.le_refl _) _, ?_⟩)
        simp only [Act.put, List.setIfInBounds_toArray, List.set_cons_succ, List.set_cons_zero]
        have b2 := ext_below hw2 (Below.refl wr.heap.size wr).drew (Nat.le_refl _)
        have o2 := Own.empty (B := wr.heap.size) (F i) w2 b2.size
        have b3 := Lib.hid (b2.alloc b2.size (.cells #[] 5))
        have l3 : wr.heap.size < (w2.alloc (.cells #[] 5)).heap.size := by rw [alloc_size]; have := b2.size; omega
        have O2 := Lib.hid o2
        clear hw2 b2 o2
        generalize w2.heap.size = Q at *
        generalize w2.alloc _ = w3 at *
        refine anyM_only (i := 14) (o := ⟨some 58, _, _, _, _, _⟩) (by kernel_rfl) rfl (by rfl) (fun w4 hw4 => ?_)
        have b4 := ext_below hw4 b3.out b3.out.size
        have l4 : wr.heap.size < w4.heap.size := Nat.lt_of_lt_of_le l3 (Below.size (show Below w3.heap.size w3 w4 from hw4))
        refine exec_fresh_then _ _ 22 rfl rfl rfl (O2.out.later hw4) (src_in (bytesIn_ext BI.out b4) (C i)) (by omega) ?_
        intro v5 w5 o5 b5
        simp only [Act.put, List.setIfInBounds_toArray, List.set_cons_succ, List.set_cons_zero]
        have b6 := Lib.hid (b4.trans (b5.mono b4.size))
        have l5 : wr.heap.size < w5.heap.size := Nat.lt_of_lt_of_le l4 b5.size
        have O5 := Lib.hid o5
        clear o5 b5 b4 hw4 b3 O2
        refine anyM_take (i := 15) (oi := ⟨some 8, _, _, _, _, _⟩) (v := v5) rfl (by kernel_rfl) (by kernel_rfl) (by kernel_rfl) (fun _ _ _ h => h) (.inl ⟨by rfl, fun w2 hw2 => ?_⟩) ?_
        · clear hw2
          go_simp
        simp only [Act.put, List.setIfInBounds_toArray, List.set_cons_succ, List.set_cons_zero]
        refine anyM_done (by kernel_rfl) (fun w7 hw7 => ?_)
        have b7 := ext_below hw7 b6.out b6.out.size
        have l7 : wr.heap.size < w7.heap.size := Nat.lt_of_lt_of_le l5 (Below.size (show Below w5.heap.size w5 w7 from hw7))
        have O7 := O5.out.later hw7
        clear hw7
        go_wp2_with fail
        go_meet
        exact ⟨O7, b7, l7⟩
      obtain ⟨o8, b8, l8⟩ := hcut
      obtain ⟨w8, hw8⟩ : ∃ w8, w8 = wc := ⟨_, rfl⟩
      subst hw8
      obtain ⟨a8, c8, rfl, hkc8, hc8m, bi8, hB8, hg8⟩ := o8.asMine
      -- the copy's own block
      obtain ⟨y, hyB, hyl, hyk⟩ : ∃ y, wr.heap.size ≤ y ∧ y < w8.heap.size ∧ (0 < k → a8 = some ⟨y, 0, none⟩ ∧ ∃ cur, w8.heap[y]? = some (.cells cur 5 (0, 0)) ∧ k ≤ cur.size) := by
        by_cases hk0 : 0 < k
        · obtain ⟨g, cur, e4, hcur, hks⟩ := hg8 hk0
          exact ⟨g, hB8 _ e4, lt_of_heap hcur, fun _ => ⟨e4, cur, hcur, hks⟩⟩
        · exact ⟨wr.heap.size, Nat.le_refl _, l8, fun h => absurd h hk0⟩
      have HYK := Lib.hid hyk
      have B8 := Lib.hid b8
      have BW8 := Lib.hid (BEL.out.trans (b8.mono hbr))
      have ST8 := Lib.hid (ST.out.later b8)
      have X8 := Lib.hid bi8
      have hcv := conv_in (F i) a8 k c8 w8 bi8
      have HSF := Lib.hid (rfl : strOf (F i) k = strOf (F i) k)
      have hby : b ≠ y := by omega
      have hoy : Hid (o ≠ some y) := Lib.hid (fun e => by have := HOL.out y e; omega)
      clear o8 b8 l8 bi8 hB8 hg8 hyk ST BEL BI HK HSF HOL
      go_upto_region 11 with fail
      clear hcv
      have pc1 := (PC.out w8 B8.out).1
      go_upto_if 65 with fail
      clear pc1
      obtain ⟨SF, hSF⟩ : ∃ SF, strOf (F i) k = SF := ⟨_, rfl⟩
      rw [hSF]
      have HSF := Lib.hid hSF
      clear hSF
      go_cut [6] (fun v6 wx => ∃ (o' : Option Nat) (p' : Nat → BitVec 8), v6 = .string (strOf p' 32) ∧ SchedSt wx b o' p' ∧ o' ≠ some y ∧ (0 < k → ∃ cur, wx.heap[y]? = some (.cells cur 5 (0, 0)) ∧ k ≤ cur.size) ∧ Below w.heap.size w wx)
      case first =>
        have hbl8 := ST8.out.lt.1
        cases hM : M i with
        | true =>
          have MX := Lib.hid (mix_any b o p (F i) a8 k c8 w8 (TK.out.later BW8.out) ST8.out X8.out hkc8 hc8m (by omega))
          have MD := Lib.hid (fun w' => mixed_any p (F i) k (by omega) w')
          rw [HSP.out] at MD
          rw [HSF.out] at MD
          clear hM
          go_wp2_with fail
          with_reducible refine MX.out.mono ?_
          rintro e w10 ⟨rfl, r, st10, hr10, ch10⟩
          have ST10 := Lib.hid st10
          have CH10 := Lib.hid ch10
          clear st10 ch10 MX
          go_wp2_with fail
          with_reducible refine (MD.out w10).mono ?_
          rintro e w11 ⟨rfl, hb11⟩
          have ST11 := Lib.hid (ST10.out.later hb11)
          have B11 := Lib.hid (BW8.out.trans ((CH10.out.below hwb BW8.out.size).trans (hb11.mono (by have := CH10.out.size; have := BW8.out.size; omega))))
          have HB11 := Lib.hid hb11
          clear hb11 MD ST10
          go_wp2_with fail
          go_meet
          refine ⟨some r, _, rfl, ST11.out, fun e => by injection e with e; omega, fun h0 => ?_, B11.out⟩
          obtain ⟨_, cur, hcur, hks⟩ := HYK.out h0
          have h10 := CH10.out.row (k := y) (Ne.symm hby) hcur
          exact ⟨cur, (HB11.out.block y (lt_of_heap h10)).trans h10, hks⟩
        | false =>
          have DV := Lib.hid (derive_any b o (Z i) (S i) p (F i) a8 k c8 w8 (TK.out.later BW8.out) ST8.out X8.out hkc8 hc8m (by omega))
          have DD := Lib.hid (fun w' => docDerive_any (Z i) (S i) p (F i) k (by omega) w')
          rw [HSP.out] at DD
          obtain ⟨pcx, pc2, pcy⟩ := PC.out w8 B8.out
          clear pcx pcy
          have PC2 := Lib.hid (fun (w' : World) (hb : Below w8.heap.size w8 w') => (PC.out w' (B8.out.trans (hb.mono B8.out.size))).2.1)
          obtain ⟨SL, hSL⟩ : ∃ SL, strOf (S i) (Z i) = SL := ⟨_, rfl⟩
          obtain ⟨D, hD⟩ : ∃ D, derB p (S i) (Z i) (F i) k = D := ⟨_, rfl⟩
          obtain ⟨err, herr⟩ : ∃ err, errOf (Z i) = err := ⟨_, rfl⟩
          obtain ⟨DS, hDS⟩ : ∃ DS, derS (Z i) D = DS := ⟨_, rfl⟩
          rw [hSL, hD, herr] at DV
          rw [HSF.out, hSL, hD, herr, hDS] at DD
          rw [hSL] at pc2 PC2
          have HDS := Lib.hid hDS
          clear hSL hD herr hDS hM
          go_wp2_with fail
          clear pc2
          with_reducible refine DV.out.mono ?_
          rintro e w10 ⟨v10, rfl, ho10, hb10⟩
          have HB10 := Lib.hid hb10
          obtain ⟨a10, n10, c10, z, rfl, hn10, hcv10, hz8, hz10⟩ : ∃ a10 n10 c10 z, v10 = .slice a10 n10 c10 ∧ n10 ≤ 32 ∧ (∀ w', Below w10.heap.size w10 w' → (convert 22 9 (.slice a10 n10 c10)).run Tryd.prog w' = .ok (.string DS) w') ∧ w8.heap.size ≤ z ∧ (0 < n10 → a10 = some ⟨z, 0, none⟩ ∧ ∃ cur, w10.heap[z]? = some (.cells cur 5 (0, 0)) ∧ n10 ≤ cur.size) := by
            have hds := HDS.out
            unfold derS at hds
            rcases ho10 with ⟨hz, o10⟩ | ⟨hz, rfl⟩
            · rw [if_pos hz] at hds
              obtain ⟨a10, c10, rfl, hc10, hm10, bi10, hB10, hg10⟩ := o10.asMine
              obtain ⟨g, cur, e, hcur, hks⟩ := hg10 (by omega)
              exact ⟨a10, 32, c10, g, rfl, by omega, fun w' hb => by rw [conv_in D a10 32 c10 w' (bytesIn_ext bi10 hb), hds], hB10 _ e, fun _ => ⟨e, cur, hcur, hks⟩⟩
            · rw [if_neg hz] at hds
              exact ⟨none, 0, 0, w8.heap.size, rfl, by omega, fun w' hb => by rw [conv_in (fun _ => 0#8) none 0 0 w' (nil_in _ _), str_none, hds], Nat.le_refl _, fun h => absurd h (by omega)⟩
          have CV10 := Lib.hid hcv10
          have HZ10 := Lib.hid hz10
          clear ho10 hb10 hcv10 hz10 DV
          have pc2 := PC2.out w10 HB10.out
          go_wp2_with fail
          clear pc2
          with_reducible refine (DD.out w10).mono ?_
          rintro e w11 ⟨rfl, hb11⟩
          have cv := CV10.out w11 hb11
          have ST11 := Lib.hid (ST8.out.later (HB10.out.trans (hb11.mono HB10.out.size)))
          have B11 := Lib.hid (BW8.out.trans ((HB10.out.trans (hb11.mono HB10.out.size)).mono BW8.out.size))
          have HY11 : Hid (0 < k → ∃ cur, w11.heap[y]? = some (.cells cur 5 (0, 0)) ∧ k ≤ cur.size) := Lib.hid (fun h0 => by
            obtain ⟨_, cur, hcur, hks⟩ := HYK.out h0
            exact ⟨cur, ((HB10.out.trans (hb11.mono HB10.out.size)).block y (lt_of_heap hcur)).trans hcur, hks⟩)
          have HZ11 : Hid (0 < n10 → a10 = some ⟨z, 0, none⟩ ∧ ∃ cur, w11.heap[z]? = some (.cells cur 5 (0, 0)) ∧ n10 ≤ cur.size) := Lib.hid (fun h0 => by
            obtain ⟨e, cur, hcur, hks⟩ := HZ10.out h0
            exact ⟨e, cur, (hb11.block z (lt_of_heap hcur)).trans hcur, hks⟩)
          have hoz : Hid (o ≠ some z) := Lib.hid (fun e => by have := ST8.out.lt.2 z e; omega)
          have hbz : b ≠ z := by omega
          have hyz : y ≠ z := by omega
          have hwz : w.heap.size ≤ z := by have := BW8.out.size; omega
          clear hb11 CV10 HZ10 DD HB10 HDS PC2
          go_wp2_with fail
          go_loopw [14] (fun s14 wz => ∃ kk : Nat, kk ≤ n10 ∧ s14 = .int .i64 (kk : Int) ∧ Chg z w11 wz ∧ (0 < n10 → ∃ cur, wz.heap[z]? = some (.cells cur 5 (0, 0)) ∧ n10 ≤ cur.size)) (fun s14 _ => n10 - (intOf s14).toNat)
          case atStart => exact ⟨0, Nat.zero_le _, rfl, Chg.refl _ _, fun h => (HZ11.out h).2⟩
          case round =>
            obtain ⟨kk, hkk, rfl, chz, hcz⟩ := hrel
            have CZ := Lib.hid chz
            have HCZ := Lib.hid hcz
            clear chz hcz cv
            by_cases hkl2 : kk < n10
            · have hkI : (kk : Int) < (n10 : Int) := by omega
              obtain ⟨ea, _⟩ := HZ11.out (by omega)
              obtain ⟨cur, hcur, hcs⟩ := HCZ.out (by omega)
              subst ea
              have kc : ∃ u, wr.cell? ⟨z, kk, none⟩ = some u := ⟨_, by rw [cell_of_row _ _ _ _ _ _ hcur]; exact Array.getElem?_eq_getElem (by omega)⟩
              obtain ⟨u0, kc⟩ := kc
              have fz : wr.frozen? ⟨z, kk, none⟩ = false := frozen_of_row _ _ _ _ _ hcur
              have QS := Lib.hid (rowSet_cell wr z kk 5 _ (.int .u8 65) hcur)
              clear hcur
              go_wp2_with fail
              go_roundw
              case rel =>
                exact ⟨kk + 1, by omega, by go_num, CZ.out.trans QS.out.chg, fun _ => ⟨_, QS.out.row, by rw [Array.size_setIfInBounds]; exact hcs⟩⟩
              case measure => (simp [intOf] <;> omega)
            · obtain rfl : kk = n10 := by omega
              clear hkl2 hkk
              go_wp2_with fail
              go_meet
              refine ⟨o, p, by rw [HSP.out], ST11.out.chg CZ.out hbz hoz.out, hoy.out, fun h0 => ?_, B11.out.trans (CZ.out.below hwz B11.out.size)⟩
              obtain ⟨cur, hcur, hks⟩ := HY11.out h0
              exact ⟨cur, CZ.out.row hyz hcur, hks⟩
      obtain ⟨o', p', rfl, st9, hoy9, hyk9, bw9⟩ := hcut
      obtain ⟨w9, hw9⟩ : ∃ w9, w9 = wc := ⟨_, rfl⟩
      subst hw9
      have ST9 := Lib.hid st9
      have BW9 := Lib.hid bw9
      have HY9 := Lib.hid hyk9
      have HOY9 := Lib.hid hoy9
      have HA8 : Hid (0 < k → a8 = some ⟨y, 0, none⟩) := Lib.hid (fun h => (HYK.out h).1)
      obtain ⟨SP9, hSP9⟩ : ∃ SP9, strOf p' 32 = SP9 := ⟨_, rfl⟩
      rw [hSP9]
      have HSP9 := Lib.hid hSP9
      have hwy : w.heap.size ≤ y := by omega
      clear st9 hoy9 hyk9 bw9 HYK ST8 BW8 X8 B8 PC hSP9 HSP hoy
      go_wp2_with fail
      go_loopw [15] (fun s15 wz => ∃ kk : Nat, kk ≤ k ∧ s15 = .int .i64 (kk : Int) ∧ Chg y w9 wz ∧ (0 < k → ∃ cur, wz.heap[y]? = some (.cells cur 5 (0, 0)) ∧ k ≤ cur.size)) (fun s15 _ => k - (intOf s15).toNat)
      case atStart => exact ⟨0, Nat.zero_le _, rfl, Chg.refl _ _, fun h => HY9.out h⟩
      case round =>
        obtain ⟨kk, hkk, rfl, chz, hcz⟩ := hrel
        have CZ := Lib.hid chz
        have HCZ := Lib.hid hcz
        clear chz hcz
        by_cases hkl2 : kk < k
        · have hkI : (kk : Int) < (k : Int) := by omega
          have ea := HA8.out (by omega)
          obtain ⟨cur, hcur, hcs⟩ := HCZ.out (by omega)
          subst ea
          have kc : ∃ u, wr.cell? ⟨y, kk, none⟩ = some u := ⟨_, by rw [cell_of_row _ _ _ _ _ _ hcur]; exact Array.getElem?_eq_getElem (by omega)⟩
          obtain ⟨u0, kc⟩ := kc
          have fz : wr.frozen? ⟨y, kk, none⟩ = false := frozen_of_row _ _ _ _ _ hcur
          have QS := Lib.hid (rowSet_cell wr y kk 5 _ (.int .u8 66) hcur)
          clear hcur
          go_wp2_with fail
          go_roundw
          case rel =>
            exact ⟨kk + 1, by omega, by go_num, CZ.out.trans QS.out.chg, fun _ => ⟨_, QS.out.row, by rw [Array.size_setIfInBounds]; exact hcs⟩⟩
          case measure => (simp [intOf] <;> omega)
        · obtain rfl : kk = k := by omega
          clear hkl2 hkk
          go_wp2_with fail
          go_roundw
          case rel =>
            exact ⟨i + 1, o', p', by omega, by omega, by go_num, by rw [HSP9.out], ST9.out.chg CZ.out hby HOY9.out, BW9.out.trans (CZ.out.below hwy BW9.out.size)⟩
          case measure => (simp [intOf] <;> omega)
    · have hI : ¬ (i : Int) < (n : Int) ∨ ((i : Int) < (n : Int) ∧ ¬ (i : Int) < 15) := by omega
      have X := Lib.hid (EE.out o p wr ST.out BEL.out)
      have Y := Lib.hid (fun w' => ED.out p w')
      rw [HSP.out] at Y
      obtain ⟨DD, hDD⟩ : ∃ DD, derB p endF 3 (fun _ => 0#8) 0 = DD := ⟨_, rfl⟩
      rw [hDD] at X Y
      obtain ⟨SD, hSD⟩ : ∃ SD, strOf DD 32 = SD := ⟨_, rfl⟩
      rw [hSD] at Y
      have HSD := Lib.hid hSD
      clear hDD hSD hlt EE ED HU ST HOL HSP
      rcases hI with h1 | ⟨h1, h2⟩
      all_goals
        go_wp2_with fail
        with_reducible refine X.out.mono ?_
        rintro e w2 ⟨v2, rfl, o2, hb2⟩
        obtain ⟨a2, c2, rfl, hc2, hm2, bi2, _, hg2⟩ := o2.asMine
        have B2 := Lib.hid (BEL.out.trans (hb2.mono hbr))
        have X2 := Lib.hid bi2
        clear hg2 o2 bi2 hb2
        go_wp2_with fail
        with_reducible refine (Y.out w2).mono ?_
        rintro e w3 ⟨rfl, hb3⟩
        have cv := conv_in DD a2 32 c2 w3 (bytesIn_ext X2.out hb3)
        rw [HSD.out] at cv
        have B3 := Lib.hid (B2.out.trans (hb3.mono B2.out.size))
        clear hb3 X2
        go_wp2_with fail
        go_ret
        exact ⟨rfl, B3.out⟩
set_option maxRecDepth 100000 in
theorem walk {H : Type} {enc : TypeId × Value → H} (w : World) (base : Nat) (v0 : Value) (d0 : DataW H) (p0 : List MemPlace)
    (k0 : Value.okWide Tryd.prog w .any base 39 v0) (h0 : DataW.Trod enc Tryd.prog w 0 (fun _ => true) true 39 v0 d0 p0) (tab : TabK w) :
    Calls Tryd.prog 6 #[v0] w fun e w' => e = .returned (.bool true) ∧ Below w.heap.size w w' := by
  obtain ⟨a, n, c, M, S, Z, A, L, C, F, rfl, hu, hlc, hm⟩ := open_uses k0 h0
  exact law_any a n c M S Z A L C F w tab hu hlc hm
set_option maxRecDepth 100000 in
theorem lifted (os : Os) (started : os.Started) (H : Type) (enc : TypeId × Value → H) :
    ReturnsInHanded {} Tryd.checked os 6 .any (fun w args => (Rows.hkdfScheduleSpec.pre enc Tryd.prog Tryd.f6 [] false w args ∧ laidMetH Tryd.prog laids w) ∧ sizedMet enc Tryd.prog Tryd.f6 (OpenSpec.ofChange Rows.hkdfScheduleSpec) false w args)
      (Rows.hkdfScheduleSpec.post enc Tryd.prog Tryd.f6 false true false false) := by
  refine returnsInHanded_of_change_and (C := Tryd.checked) (X := fun w _ => laidMetH Tryd.prog laids w) (fun _ _ _ hh h => h.of_heap hh) own started (by kernel_rfl) Tryd.func6
    (ChangeSpec.witness_shaped (enc := enc) (C := Tryd.checked) (os := os) (X := fun w _ => laidMetH Tryd.prog laids w) false (World.doorLaid Tryd.prog 14 os) #[.slice none 0 0] 8 rfl (World.shaped_of_RefB (by kernel_rfl) (by kernel_rfl)) (by kernel_rfl) (by kernel_rfl) (by kernel_rfl) (door_met os _)) ?_
  intro W base args ds gs before hval0 hW _ _ hL _
  have hval : ∀ (j : Nat) t v, Tryd.f6.params[j]? = some t → args[j]? = some v → Value.okWide Tryd.prog W .any base t v := hval0
  have hW' := hW
  obtain ⟨p, q, hA0, hV, rfl, hfz, hnd⟩ := hW
  have hA : DataW.TrodAll enc Tryd.prog W 0 (fun _ => true) true Tryd.f6.params.toList args.toList ds p := hA0
  rw [Tryd.params6] at hA hval
  obtain ⟨v0, vs0, d0, ds0, p0, q0, hargs, rfl, rfl, h0, r0⟩ := trodAll_cons hA
  obtain ⟨rfl, rfl, rfl⟩ := trodAll_nil r0
  obtain rfl : args = #[v0] := by cases args; simp_all
  obtain ⟨rfl, rfl⟩ := trodVars_none hV
  have k0 := h0
  have lt0 : ∀ x ∈ p0, x.block < W.heap.size := by obtain ⟨m, hm⟩ := k0; exact DataW.trod_lt m _ _ _ hm
  clear hA0 hval0
  refine (walk W base v0 d0 p0 (hval 0 39 v0 rfl rfl) k0 (tabK_of_laid hL)).mono fun e W' ⟨he, bel⟩ => ?_
  subst he
  exact ⟨_, rfl, _, _, _, [], _, [], hW', trodAll_mk1 (shut_bool Tryd.underlying4 _), (trodAll_cons_mk (Below.trod laidOut (by kernel_rfl) (of_decide_eq_true (by kernel_rfl)) k0 bel lt0) trodAll_mk0), rfl, bel.frame _, fun h => by cases h⟩
theorem over : Rows.HkdfScheduleSaid :=
  OpenClaim.holds_of_wide 6 Tryd.f6 rfl rfl rfl rfl rfl rfl rfl ⟨rfl, rfl, rfl, rfl, rfl⟩ rfl rfl rfl rfl rfl (by kernel_rfl) Tryd.func6 (by kernel_rfl)
    (of_decide_eq_true (by kernel_rfl)) (by unfold Func.isWrapper; first | (rw [if_pos (by decide +kernel)]; kernel_rfl) | (rw [if_neg (by decide +kernel)]; exact ⟨rfl, rfl⟩))
    (fun os started H enc _ => lifted os started H enc)
theorem proved : Rows.HkdfScheduleCardSaid :=
  Claim7.holds_tied_plain_at .later [] [.data] true (true, "51514c4db4b86ac38101e61a085df83b691a39fd7844e7ee45d3e83372f213d6") false
    over (fun _ h => by cases h) (by kernel_rfl) (fun _ h => by cases h) hkdfSchedule_row_tie rfl ⟨rfl, rfl⟩ (by kernel_rfl) rfl
    (fun f fn hf hfn => by
      obtain rfl : f = 6 := Option.some.inj ((show Tryd.prog.funcNamed "rhyne/rhynelaw02.HkdfSchedule" = some 6 by kernel_rfl).symm.trans hf) |>.symm
      obtain rfl : fn = Tryd.f6 := (Option.some.inj (Tryd.func6.symm.trans hfn)).symm
      exact ⟨by kernel_rfl, fun j t ht => by
        rw [Tryd.params6] at ht
        have hm : t ∈ [39] := by simpa using Array.mem_of_getElem? ht
        have hall : ([39].all fun u => !Tryd.prog.wantsStandIn u) = true := by kernel_rfl
        exact (show Tryd.prog.wantsStandIn t = false by simpa using List.all_eq_true.1 hall t hm)⟩)
    (by kernel_rfl)
end Go.Proofs.YtbadcknchamimabDoor.hkdfSchedule
