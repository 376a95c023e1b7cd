/-
  hkdf: the document's schedule: Zeros, First, Mixed, DocDerive.
-/
import Derived.Test.YtbadcknchamimabDoorHkdfG
namespace Go.Proofs.YtbadcknchamimabDoor
open Go Go.RowKit Go.BigFrame
set_option linter.unusedSimpArgs false
set_option linter.unusedVariables false
theorem str_none (f : Nat → BitVec 8) : strOf f 0 = ⟨#[]⟩ := rfl
theorem isEmpty_size (S : ByteArray) : S.toList.isEmpty = decide (S.size = 0) := by
  rw [ByteArray.toList_eq]
  have e : S.size = S.data.toList.length := by simp
  rw [e]
  cases S.data.toList <;> simp
theorem none_any (w : World) : Calls Tryd.prog 15 #[] w fun e w' => e = .returned (.pointer none) ∧ w = w' := by
  go_enter Tryd.func15, Tryd.ntmps15
  go_wp2_with fail
  go_ret
  exact ⟨rfl, rfl⟩
theorem zeros_any (w : World) : Calls Tryd.prog 26 #[] w fun e w' => e = .returned (.string (strOf (fun _ => 0#8) 32)) ∧ Below w.heap.size w w' := by
  have hmk := made32 w
  have al : Below w.heap.size w (w.alloc (.cells (bytesArr (fun _ => 0#8) 32) 5)) := (Below.refl _ _).alloc (Nat.le_refl _) _
  have hcv := conv_in (fun _ => 0#8) (some ⟨w.heap.size, 0, none⟩) 32 32 _ (arr_in (heap_alloc_last w (.cells (bytesArr (fun _ => 0#8) 32) 5)) (by unfold maxLen; omega))
  generalize strOf (fun _ => 0#8) 32 = Z at *
  have AL := Lib.hid al
  clear al
  go_enter Tryd.func26, Tryd.ntmps26
  go_wp2_with fail
  go_ret
  exact ⟨rfl, AL.out⟩
theorem first_any (w : World) : Calls Tryd.prog 19 #[] w fun e w' => e = .returned (.string (strOf firstB 32)) ∧ Below w.heap.size w w' := by
  have Z := Lib.hid (zeros_any w)
  have M := Lib.hid (fun w' => refMac_any (fun _ => 0#8) (fun _ => 0#8) 0 32 (by omega) (by omega) w')
  rw [str_none] at M
  obtain ⟨R, hR⟩ : ∃ R, strOf firstB 32 = R := ⟨_, rfl⟩
  have e : macB (keyB (fun _ => 0#8) 0) (fun _ => 0#8) 32 = firstB := rfl
  rw [e, hR] at M
  rw [hR]
  clear e hR
  generalize strOf (fun _ => 0#8) 32 = ZS at *
  go_enter Tryd.func19, Tryd.ntmps19
  go_wp2_with fail
  with_reducible refine Z.out.mono ?_
  rintro e w1 ⟨rfl, hb1⟩
  go_wp2_with fail
  with_reducible refine (M.out w1).mono ?_
  rintro e w2 ⟨rfl, hb2⟩
  go_wp2_with fail
  go_ret
  exact ⟨rfl, hb1.trans (hb2.mono hb1.size)⟩
theorem docDerive_call (l : Nat) (s p g : Nat → BitVec 8) (n : Nat) (w : World) : ∃ D, Calls Tryd.prog 13 #[.string (strOf p 32), .string (strOf s l), .string (strOf (sumS g n) 32), .int .i64 32] w
    (fun e w' => e = .returned (.tuple #[.string D, .int .i64 (errOf l)]) ∧ Below w.heap.size w w') ∧ (l ≤ 249 → D = strOf (derB p s l g n) 32) ∧ (¬ l ≤ 249 → D = ⟨#[]⟩) := by
  by_cases h : l ≤ 249
  · refine ⟨_, ?_, fun _ => rfl, fun h2 => absurd h h2⟩
    rw [errOf_ok h]
    exact refLabel_ok 32 32 32 l p (sumS g n) s w (by omega) (by omega) h (by omega)
  · refine ⟨_, ?_, fun h2 => absurd h2 h, fun _ => rfl⟩
    rw [errOf_big h]
    refine (refLabel_big (strOf p 32) (strOf s l) (strOf (sumS g n) 32) 32 (by omega) (.inl (by rw [strOf_size]; omega)) w).mono ?_
    rintro e w' ⟨rfl, rfl⟩
    exact ⟨by rw [str_none], Below.refl _ _⟩
/-- What the document's Derive answers. -/
def derS (l : Nat) (f : Nat → BitVec 8) : ByteArray := if l ≤ 249 then strOf f 32 else ⟨#[]⟩
theorem docDerive_any (l : Nat) (s p g : Nat → BitVec 8) (n : Nat) (hn : n ≤ 50000) (w : World) : Calls Tryd.prog 21 #[.string (strOf p 32), .string (strOf s l), .string (strOf g n)] w
    fun e w' => e = .returned (.tuple #[.string (derS l (derB p s l g n)), .int .i64 (errOf l)]) ∧ Below w.heap.size w w' := by
  have SM := Lib.hid (refSum_any g n (by omega) w)
  have LB : Hid (∀ w', Calls Tryd.prog 13 #[.string (strOf p 32), .string (strOf s l), .string (strOf (sumS g n) 32), .int .i64 32] w' fun e w'' => e = .returned (.tuple #[.string (derS l (derB p s l g n)), .int .i64 (errOf l)]) ∧ Below w'.heap.size w' w'') := Lib.hid (fun w' => by
    obtain ⟨D, hD, h1, h2⟩ := docDerive_call l s p g n w'
    have e : D = derS l (derB p s l g n) := by
      unfold derS
      by_cases h : l ≤ 249
      · rw [if_pos h, h1 h]
      · rw [if_neg h, h2 h]
    rw [e] at hD
    exact hD)
  generalize derS l (derB p s l g n) = D at *
  generalize errOf l = err at *
  generalize strOf p 32 = SP at *
  generalize strOf s l = SL at *
  generalize strOf g n = SG at *
  generalize strOf (sumS g n) 32 = SS at *
  go_enter Tryd.func21, Tryd.ntmps21
  go_wp2_with fail
  with_reducible refine SM.out.mono ?_
  rintro e w1 ⟨rfl, hb1⟩
  go_wp2_with fail
  with_reducible refine (LB.out w1).mono ?_
  rintro e w2 ⟨rfl, hb2⟩
  go_wp2_with fail
  go_ret2
  exact ⟨rfl, hb1.trans (hb2.mono hb1.size)⟩
set_option maxHeartbeats 4000000 in
theorem mixed_any (p g : Nat → BitVec 8) (n : Nat) (hn : n ≤ 50000) (w : World) : Calls Tryd.prog 20 #[.string (strOf p 32), .string (strOf g n)] w
    fun e w' => e = .returned (.string (strOf (mixB p g n) 32)) ∧ Below w.heap.size w w' := by
  have Z := Lib.hid (fun w' => zeros_any w')
  have SM := Lib.hid (fun w' => refSum_any (fun _ => 0#8) 0 (by omega) w')
  rw [str_none] at SM
  obtain ⟨d, hd⟩ : ∃ d, expB (keyB p 32) (infoB 32 7 derivedF 32 (sumS (fun _ => 0#8) 0)) (9 + 7 + 1 + 32) = d := ⟨_, rfl⟩
  have LB : Hid (∀ w', Calls Tryd.prog 13 #[.string (strOf p 32), .string ⟨#[100, 101, 114, 105, 118, 101, 100]⟩, .string (strOf (sumS (fun _ => 0#8) 0) 32), .int .i64 32] w' fun e w'' => e = .returned (.tuple #[.string (strOf d 32), .int .i64 0]) ∧ Below w'.heap.size w' w'') := Lib.hid (fun w' => by
    have h := refLabel_ok 32 32 32 7 p (sumS (fun _ => 0#8) 0) derivedF w' (by omega) (by omega) (by omega) (by omega)
    rw [derived_str, hd] at h
    exact h)
  obtain ⟨n2, hn2⟩ : ∃ n2, (if n = 0 then 32 else n) = n2 := ⟨_, rfl⟩
  obtain ⟨g2, hg2⟩ : ∃ g2 : Nat → BitVec 8, (if n = 0 then fun _ => 0#8 else g) = g2 := ⟨_, rfl⟩
  have M := Lib.hid (fun w' => refMac_any d g2 32 n2 (by omega) (by rw [← hn2]; split <;> omega) w')
  have hP : macB (keyB d 32) g2 n2 = mixB p g n := by rw [← hd, ← hn2, ← hg2]; rfl
  rw [hP] at M
  have HN2 := Lib.hid hn2
  have HG2 := Lib.hid hg2
  have zg := strOf_size g n
  clear hd hn2 hg2 hP
  obtain ⟨SG, hSG⟩ : ∃ SG, strOf g n = SG := ⟨_, rfl⟩
  rw [hSG] at zg ⊢
  have HSG := Lib.hid hSG
  clear hSG
  go_enter Tryd.func20, Tryd.ntmps20
  go_upto_if 8 with fail
  go_cut [1] (fun v1 wx => v1 = .string (strOf g2 n2) ∧ Below w.heap.size w wx)
  case first =>
    have hE := isEmpty_size SG
    rw [zg] at hE
    have hn2 := HN2.out
    have hg2 := HG2.out
    clear HN2 HG2
    by_cases h0 : n = 0
    · rw [if_pos h0] at hn2 hg2
      subst hn2 hg2
      rw [decide_eq_true h0] at hE
      rw [hE]
      clear hE
      go_wp2_with fail
      with_reducible refine (Z.out w).mono ?_
      rintro e w1 ⟨rfl, hb1⟩
      go_wp2_with fail
      go_meet
      exact ⟨rfl, hb1⟩
    · rw [if_neg h0] at hn2 hg2
      subst hn2 hg2
      rw [decide_eq_false h0] at hE
      rw [hE]
      clear hE
      go_wp2_with fail
      go_meet
      exact ⟨by rw [HSG.out], Below.refl _ _⟩
  obtain ⟨rfl, hb0⟩ := hcut
  clear HN2 HG2 HSG zg Z
  have B0 := Lib.hid hb0
  generalize strOf p 32 = SP at *
  generalize strOf (sumS (fun _ => 0#8) 0) 32 = SS at *
  generalize strOf d 32 = SD at *
  generalize strOf g2 n2 = SG2 at *
  clear hb0
  go_wp2_with fail
  with_reducible refine (SM.out wc).mono ?_
  rintro e w1 ⟨rfl, hb1⟩
  have B1 := Lib.hid (B0.out.trans (hb1.mono B0.out.size))
  clear hb1
  go_wp2_with fail
  with_reducible refine (LB.out w1).mono ?_
  rintro e w2 ⟨rfl, hb2⟩
  have B2 := Lib.hid (B1.out.trans (hb2.mono B1.out.size))
  clear hb2
  go_wp2_with fail
  with_reducible refine (M.out w2).mono ?_
  rintro e w3 ⟨rfl, hb3⟩
  have B3 := Lib.hid (B2.out.trans (hb3.mono B2.out.size))
  clear hb3
  go_wp2_with fail
  go_ret
  exact ⟨rfl, B3.out⟩
end Go.Proofs.YtbadcknchamimabDoor
