/-
  FRAMES, SECOND PART: falling spans; whether a part fits.
-/
import Derived.Test.YtcgbhcmgddgheabDoorFrA
namespace Go.Proofs.YtcgbhcmgddgheabDoor
open Go Go.RowKit Go.BigFrame
set_option linter.unusedSimpArgs false
set_option linter.unusedVariables false
set_option maxRecDepth 100000
/-- Behind the first i spans: what is left falls. -/
theorem fallF_drop (A : List (Int × Int)) (most : Int) (i : Nat) (hi : i < A.length) : fallF most (A.drop i) ↔ (0 ≤ A[i].1 ∧ A[i].1 ≤ A[i].2 ∧ A[i].2 ≤ most) ∧ fallF (A[i].1 - 2) (A.drop (i + 1)) := by
  rw [List.drop_eq_getElem_cons hi]
  obtain ⟨a, b⟩ := A[i]
  exact Iff.rfl
set_option maxHeartbeats 8000000 in
theorem falling_any (v : Value) (A : List (Int × Int)) (w : World) (hA : SpansIn w v A) : Calls Tryd.prog 45 #[v] w fun e w' => e = .returned (.bool (decide (falling A))) ∧ Below w.heap.size w w' := by
  obtain ⟨m, hm⟩ : ∃ m, decide (falling A) = m := ⟨_, rfl⟩
  rw [hm]
  have HM := Lib.hid hm
  clear hm
  obtain ⟨a, c, rfl, hc, hat⟩ := hA.at_
  have hn63 : A.length ≤ 9223372036854775807 := by have := hc.1; have := hc.2; unfold maxLen at *; omega
  have HAT := Lib.hid hat
  clear hat hA hc
  obtain ⟨n, hn⟩ : ∃ n, A.length = n := ⟨_, rfl⟩
  rw [hn] at hn63 ⊢
  have HN := Lib.hid hn
  clear hn
  have WI := Lib.hid (within_any (n : Int) 1 64 w)
  go_enter Tryd.func45, Tryd.ntmps45
  by_cases hn64 : 1 ≤ n ∧ n ≤ 64
  rotate_left
  · have R := Lib.hid (HM.out.symm.trans (decide_eq_false (fun h : falling A => hn64 (by have := h.1; rw [HN.out] at this; exact this))))
    have D := Lib.hid (within_f (n := (n : Int)) (lo := 1) (hi := 64) (by omega))
    go_wp2_with fail
    with_reducible refine WI.out.mono ?_
    rintro e w' ⟨rfl, rfl⟩
    rw [D.out]
    go_wp2_with fail
    go_ret
    exact ⟨ret_bool R.out, Below.refl _ _⟩
  have D := Lib.hid (within_t (n := (n : Int)) (lo := 1) (hi := 64) (by omega))
  go_wp2_with fail
  with_reducible refine WI.out.mono ?_
  rintro e w' ⟨rfl, rfl⟩
  rw [D.out]
  go_upto_region 5 with (fail)
  go_loopw [3, 12] (fun s3 s12 wr => ∃ (i : Nat) (most : Int), i ≤ n ∧ most ≤ MX ∧ -2 ≤ most ∧ s12 = .int .i64 (i : Int) ∧ s3 = .int .i64 most ∧ (fallF MX A ↔ fallF most (A.drop i)) ∧ Below w.heap.size w wr) (fun _ s12 _ => n - (intOf s12).toNat)
  case atStart => exact ⟨0, MX, by omega, Int.le_refl _, by decide, rfl, rfl, Iff.rfl, Below.refl _ _⟩
  case round =>
    obtain ⟨i, most, hi, hm1, hm2, rfl, rfl, hiff, bel⟩ := hrel
    have IFF := Lib.hid hiff
    have BEL := Lib.hid bel
    have M1 := Lib.hid hm1
    clear hiff bel hm1
    by_cases hin : i < n
    · have hinI : (i : Int) < (n : Int) := by omega
      obtain h0 | ⟨b, o, rfl, hbl, hcell⟩ := HAT.out
      · rw [h0] at HN; have := HN.out; simp at this; omega
      obtain ⟨hx, hy⟩ := hcell i (by rw [HN.out]; exact hin)
      have fd := fallF_drop A most i (by rw [HN.out]; exact hin)
      obtain ⟨x, hxe⟩ : ∃ x, (A[i]'(by rw [HN.out]; exact hin)).1 = x := ⟨_, rfl⟩
      obtain ⟨y, hye⟩ : ∃ y, (A[i]'(by rw [HN.out]; exact hin)).2 = y := ⟨_, rfl⟩
      rw [hxe] at hx fd
      rw [hye] at hy fd
      have FD := Lib.hid (IFF.out.trans fd)
      have cx := (BEL.out.cell (p := ⟨b, o + i * 2, none⟩) hbl).trans hx
      have cy := (BEL.out.cell (p := ⟨b, o + i * 2 + 1, none⟩) hbl).trans hy
      clear hx hy fd hxe hye hcell hbl IFF
      go_upto_region 7 with (fail)
      have row := heap_alloc_last wr (.cells #[.int .i64 x, .int .i64 y] 50)
      have bel := BEL.out.alloc BEL.out.size (.cells #[.int .i64 x, .int .i64 y] 50)
      generalize wr.alloc _ = w2 at *
      have q0 : w2.cell? ⟨wr.heap.size, 0, none⟩ = some (.int .i64 x) := by rw [cell_of_row _ _ _ _ _ _ row]; rfl
      have q1 : w2.cell? ⟨wr.heap.size, 1, none⟩ = some (.int .i64 y) := by rw [cell_of_row _ _ _ _ _ _ row]; rfl
      clear row cx cy HAT WI
      have NO := Lib.hid (fun (h : ¬ (0 ≤ x ∧ x ≤ y ∧ y ≤ most)) => HM.out.symm.trans (decide_eq_false (fun f : falling A => h (FD.out.1 f.2).1)))
      by_cases h0 : 0 ≤ x
      rotate_left
      · have R := Lib.hid (NO.out (by omega))
        clear NO FD HM M1
        have h0' : x < 0 := by omega
        go_wp2_with fail
        go_ret
        exact ⟨ret_bool R.out, bel⟩
      by_cases h1 : x ≤ y
      rotate_left
      · have R := Lib.hid (NO.out (by omega))
        clear NO FD HM M1
        have h1' : y < x := by omega
        go_wp2_with fail
        go_ret
        exact ⟨ret_bool R.out, bel⟩
      by_cases h2 : y ≤ most
      rotate_left
      · have R := Lib.hid (NO.out (by omega))
        clear NO FD HM M1
        have h2' : most < y := by omega
        go_wp2_with fail
        go_ret
        exact ⟨ret_bool R.out, bel⟩
      have LE := Lib.hid (show x - 2 ≤ MX by have := M1.out; omega)
      have GO := Lib.hid (FD.out.trans ⟨fun h => h.2, fun h => ⟨⟨h0, h1, h2⟩, h⟩⟩)
      have hxm : x ≤ 4611686018427387903 := by have := M1.out; unfold MX at this; omega
      clear NO FD HM M1
      go_wp2_with fail
      go_roundw
      case rel => exact ⟨i + 1, x - 2, by omega, LE.out, by omega, by go_num, by go_num, GO.out, bel⟩
      case measure => simp [intOf]; omega
    · obtain rfl : i = n := by omega
      have ALL := Lib.hid (HM.out.symm.trans (decide_eq_true (show falling A from ⟨by rw [HN.out]; exact hn64, IFF.out.2 (by rw [List.drop_of_length_le (by rw [HN.out]; exact Nat.le_refl _)]; trivial)⟩)))
      clear HM IFF HAT
      go_wp2_with fail
      go_ret
      exact ⟨ret_bool ALL.out, BEL.out⟩
end Go.Proofs.YtcgbhcmgddgheabDoor
