/-
  FRAMES: THE DOCUMENT's SMALL FUNCTIONS; Asks.
  FRAMES: WHEN Put TAKES A FRAME, AS THE DOCUMENT SAYS IT (plain mathematics).
-/
import Derived.Test.YtcgbhcmgddgheabDoorFrVz
import Derived.Test.YtcgbhcmgddgheabDoorFrYz
namespace Go.Proofs.YtcgbhcmgddgheabDoor
open Go Go.RowKit Go.BigFrame
set_option linter.unusedSimpArgs false
set_option linter.unusedVariables false
set_option maxRecDepth 100000
set_option maxHeartbeats 4000000 in
theorem num_any (n : Int) (w : World) : Calls Tryd.prog 28 #[.int .i64 n] w fun e w' => e = .returned (.bool (decide (0 ≤ n ∧ n ≤ MX))) ∧ w = w' := by
  by_cases h0 : 0 ≤ n
  · by_cases h1 : n ≤ MX
    · rw [decide_eq_true ⟨h0, h1⟩]
      unfold MX at h1
      go_enter Tryd.func28, Tryd.ntmps28
      go_wp2_with fail
      go_ret
      exact ⟨rfl, rfl⟩
    · rw [decide_eq_false (fun h => h1 h.2)]
      unfold MX at h1
      go_enter Tryd.func28, Tryd.ntmps28
      go_wp2_with fail
      go_ret
      exact ⟨rfl, rfl⟩
  · rw [decide_eq_false (fun h => h0 h.1)]
    go_enter Tryd.func28, Tryd.ntmps28
    go_wp2_with fail
    go_ret
    exact ⟨rfl, rfl⟩
/-- Is a letter in a text? -/
def hasF (s : ByteArray) (c : BitVec 8) : Bool := (List.range s.size).any (fun i => bx s i == c)
theorem n8_beq (x y : BitVec 8) : (n8 x == n8 y) = (x == y) := by
  by_cases h : x = y
  · rw [h]; simp
  · rw [beq_eq_false_iff_ne.2 h]
    exact beq_eq_false_iff_ne.2 (fun e => h (by rw [n8_inj] at e; exact e))
set_option maxHeartbeats 4000000 in
theorem has_any (s : ByteArray) (c : BitVec 8) (hs : s.size ≤ 100) (w : World) : Calls Tryd.prog 29 #[.string s, .int .u8 (n8 c)] w fun e w' => e = .returned (.bool (hasF s c)) ∧ w = w' := by
  have hx : ∀ (i : Nat) (h : i < s.size) (w : World), _ := fun i h w => run_at_str (bx s) s.size i h w
  rw [bx_str] at hx
  obtain ⟨H, hH⟩ : ∃ H, hasF s c = H := ⟨_, rfl⟩
  rw [hH]
  unfold hasF at hH
  obtain ⟨n, hn⟩ : ∃ n, s.size = n := ⟨_, rfl⟩
  rw [hn] at hx hH hs
  have HH := Lib.hid hH
  clear hH
  go_enter Tryd.func29, Tryd.ntmps29
  go_upto_region 2 with (fail)
  go_loopw [5] (fun s5 wr => ∃ j : Nat, j ≤ n ∧ s5 = .int .i64 (j : Int) ∧ (∀ i, i < j → (bx s i == c) = false) ∧ w = wr) (fun s5 _ => n - (intOf s5).toNat)
  case atStart => exact ⟨0, by omega, rfl, fun i hi => by omega, rfl⟩
  case round =>
    obtain ⟨j, hj, rfl, hno, rfl⟩ := hrel
    by_cases hjn : j < n
    · have hjI : (j : Int) < (n : Int) := by omega
      have hxj := hx j hjn w
      obtain ⟨b, hb⟩ : ∃ b, (bx s j == c) = b := ⟨_, rfl⟩
      have hnb : (n8 (bx s j) == n8 c) = b := by rw [n8_beq, hb]
      have NO := Lib.hid hno
      have HB := Lib.hid hb
      clear hno hb hx
      cases b with
      | true =>
        have R := Lib.hid (show true = H from by
          rw [← HH.out]
          exact (List.any_eq_true.2 ⟨j, List.mem_range.2 hjn, HB.out⟩).symm)
        go_wp2_with fail
        go_ret
        exact ⟨ret_bool R.out.symm, rfl⟩
      | false =>
        go_wp2_with fail
        go_roundw
        case rel => exact ⟨j + 1, by omega, by go_num, fun i hi => by
          by_cases hij : i = j
          · rw [hij]; exact HB.out
          · exact NO.out i (by omega), trivial⟩
        case measure => (simp [intOf] <;> omega)
    · obtain rfl : j = n := by omega
      have hjI : ¬ (j : Int) < (j : Int) := by omega
      have R := Lib.hid (show false = H from by
        rw [← HH.out]
        symm
        rw [List.any_eq_false]
        intro i hi
        rw [hno i (List.mem_range.1 hi)]
        decide)
      clear hno hx
      go_wp2_with fail
      go_ret
      exact ⟨ret_bool R.out.symm, rfl⟩
def partsS (k : Int) : ByteArray :=
  if k = 0 then ⟨#[110]⟩ else
  if k = 1 then ⟨#[45]⟩ else
  if k = 30 then ⟨#[45]⟩ else
  if k = 2 then ⟨#[97, 110]⟩ else
  if k = 4 then ⟨#[115, 99, 111]⟩ else
  if k = 5 then ⟨#[115, 99]⟩ else
  if k = 6 then ⟨#[111, 100]⟩ else
  if k = 7 then ⟨#[100]⟩ else
  if k = 8 then ⟨#[115, 111, 100, 102]⟩ else
  if k = 16 then ⟨#[110]⟩ else
  if k = 20 then ⟨#[110]⟩ else
  if k = 25 then ⟨#[110]⟩ else
  if k = 18 then ⟨#[110]⟩ else
  if k = 22 then ⟨#[110]⟩ else
  if k = 17 then ⟨#[115, 110]⟩ else
  if k = 21 then ⟨#[115, 110]⟩ else
  if k = 24 then ⟨#[110, 111, 100, 120]⟩ else
  if k = 26 then ⟨#[100]⟩ else
  if k = 27 then ⟨#[100]⟩ else
  if k = 28 then ⟨#[99, 110, 100]⟩ else
  if k = 29 then ⟨#[99, 100]⟩ else
  ⟨#[]⟩
set_option maxHeartbeats 4000000 in
theorem parts_at_0 (w : World) : Calls Tryd.prog 27 #[.int .i64 0] w fun e w' => e = .returned (.string (partsS 0)) ∧ w = w' := by
  have hp : partsS 0 = ⟨#[110]⟩ := rfl
  rw [hp]
  go_enter Tryd.func27, Tryd.ntmps27
  go_wp2_with fail
  go_ret
  exact ⟨rfl, rfl⟩
set_option maxHeartbeats 4000000 in
theorem parts_at_1 (w : World) : Calls Tryd.prog 27 #[.int .i64 1] w fun e w' => e = .returned (.string (partsS 1)) ∧ w = w' := by
  have hp : partsS 1 = ⟨#[45]⟩ := rfl
  rw [hp]
  go_enter Tryd.func27, Tryd.ntmps27
  go_wp2_with fail
  go_ret
  exact ⟨rfl, rfl⟩
set_option maxHeartbeats 4000000 in
theorem parts_at_30 (w : World) : Calls Tryd.prog 27 #[.int .i64 30] w fun e w' => e = .returned (.string (partsS 30)) ∧ w = w' := by
  have hp : partsS 30 = ⟨#[45]⟩ := rfl
  rw [hp]
  go_enter Tryd.func27, Tryd.ntmps27
  go_wp2_with fail
  go_ret
  exact ⟨rfl, rfl⟩
set_option maxHeartbeats 4000000 in
theorem parts_at_2 (w : World) : Calls Tryd.prog 27 #[.int .i64 2] w fun e w' => e = .returned (.string (partsS 2)) ∧ w = w' := by
  have hp : partsS 2 = ⟨#[97, 110]⟩ := rfl
  rw [hp]
  go_enter Tryd.func27, Tryd.ntmps27
  go_wp2_with fail
  go_ret
  exact ⟨rfl, rfl⟩
set_option maxHeartbeats 4000000 in
theorem parts_at_4 (w : World) : Calls Tryd.prog 27 #[.int .i64 4] w fun e w' => e = .returned (.string (partsS 4)) ∧ w = w' := by
  have hp : partsS 4 = ⟨#[115, 99, 111]⟩ := rfl
  rw [hp]
  go_enter Tryd.func27, Tryd.ntmps27
  go_wp2_with fail
  go_ret
  exact ⟨rfl, rfl⟩
set_option maxHeartbeats 4000000 in
theorem parts_at_5 (w : World) : Calls Tryd.prog 27 #[.int .i64 5] w fun e w' => e = .returned (.string (partsS 5)) ∧ w = w' := by
  have hp : partsS 5 = ⟨#[115, 99]⟩ := rfl
  rw [hp]
  go_enter Tryd.func27, Tryd.ntmps27
  go_wp2_with fail
  go_ret
  exact ⟨rfl, rfl⟩
set_option maxHeartbeats 4000000 in
theorem parts_at_6 (w : World) : Calls Tryd.prog 27 #[.int .i64 6] w fun e w' => e = .returned (.string (partsS 6)) ∧ w = w' := by
  have hp : partsS 6 = ⟨#[111, 100]⟩ := rfl
  rw [hp]
  go_enter Tryd.func27, Tryd.ntmps27
  go_wp2_with fail
  go_ret
  exact ⟨rfl, rfl⟩
set_option maxHeartbeats 4000000 in
theorem parts_at_7 (w : World) : Calls Tryd.prog 27 #[.int .i64 7] w fun e w' => e = .returned (.string (partsS 7)) ∧ w = w' := by
  have hp : partsS 7 = ⟨#[100]⟩ := rfl
  rw [hp]
  go_enter Tryd.func27, Tryd.ntmps27
  go_wp2_with fail
  go_ret
  exact ⟨rfl, rfl⟩
set_option maxHeartbeats 4000000 in
theorem parts_at_8 (w : World) : Calls Tryd.prog 27 #[.int .i64 8] w fun e w' => e = .returned (.string (partsS 8)) ∧ w = w' := by
  have hp : partsS 8 = ⟨#[115, 111, 100, 102]⟩ := rfl
  rw [hp]
  go_enter Tryd.func27, Tryd.ntmps27
  go_wp2_with fail
  go_ret
  exact ⟨rfl, rfl⟩
set_option maxHeartbeats 4000000 in
theorem parts_at_16 (w : World) : Calls Tryd.prog 27 #[.int .i64 16] w fun e w' => e = .returned (.string (partsS 16)) ∧ w = w' := by
  have hp : partsS 16 = ⟨#[110]⟩ := rfl
  rw [hp]
  go_enter Tryd.func27, Tryd.ntmps27
  go_wp2_with fail
  go_ret
  exact ⟨rfl, rfl⟩
set_option maxHeartbeats 4000000 in
theorem parts_at_20 (w : World) : Calls Tryd.prog 27 #[.int .i64 20] w fun e w' => e = .returned (.string (partsS 20)) ∧ w = w' := by
  have hp : partsS 20 = ⟨#[110]⟩ := rfl
  rw [hp]
  go_enter Tryd.func27, Tryd.ntmps27
  go_wp2_with fail
  go_ret
  exact ⟨rfl, rfl⟩
set_option maxHeartbeats 4000000 in
theorem parts_at_25 (w : World) : Calls Tryd.prog 27 #[.int .i64 25] w fun e w' => e = .returned (.string (partsS 25)) ∧ w = w' := by
  have hp : partsS 25 = ⟨#[110]⟩ := rfl
  rw [hp]
  go_enter Tryd.func27, Tryd.ntmps27
  go_wp2_with fail
  go_ret
  exact ⟨rfl, rfl⟩
set_option maxHeartbeats 4000000 in
theorem parts_at_18 (w : World) : Calls Tryd.prog 27 #[.int .i64 18] w fun e w' => e = .returned (.string (partsS 18)) ∧ w = w' := by
  have hp : partsS 18 = ⟨#[110]⟩ := rfl
  rw [hp]
  go_enter Tryd.func27, Tryd.ntmps27
  go_wp2_with fail
  go_ret
  exact ⟨rfl, rfl⟩
set_option maxHeartbeats 4000000 in
theorem parts_at_22 (w : World) : Calls Tryd.prog 27 #[.int .i64 22] w fun e w' => e = .returned (.string (partsS 22)) ∧ w = w' := by
  have hp : partsS 22 = ⟨#[110]⟩ := rfl
  rw [hp]
  go_enter Tryd.func27, Tryd.ntmps27
  go_wp2_with fail
  go_ret
  exact ⟨rfl, rfl⟩
set_option maxHeartbeats 4000000 in
theorem parts_at_17 (w : World) : Calls Tryd.prog 27 #[.int .i64 17] w fun e w' => e = .returned (.string (partsS 17)) ∧ w = w' := by
  have hp : partsS 17 = ⟨#[115, 110]⟩ := rfl
  rw [hp]
  go_enter Tryd.func27, Tryd.ntmps27
  go_wp2_with fail
  go_ret
  exact ⟨rfl, rfl⟩
set_option maxHeartbeats 4000000 in
theorem parts_at_21 (w : World) : Calls Tryd.prog 27 #[.int .i64 21] w fun e w' => e = .returned (.string (partsS 21)) ∧ w = w' := by
  have hp : partsS 21 = ⟨#[115, 110]⟩ := rfl
  rw [hp]
  go_enter Tryd.func27, Tryd.ntmps27
  go_wp2_with fail
  go_ret
  exact ⟨rfl, rfl⟩
set_option maxHeartbeats 4000000 in
theorem parts_at_24 (w : World) : Calls Tryd.prog 27 #[.int .i64 24] w fun e w' => e = .returned (.string (partsS 24)) ∧ w = w' := by
  have hp : partsS 24 = ⟨#[110, 111, 100, 120]⟩ := rfl
  rw [hp]
  go_enter Tryd.func27, Tryd.ntmps27
  go_wp2_with fail
  go_ret
  exact ⟨rfl, rfl⟩
set_option maxHeartbeats 4000000 in
theorem parts_at_26 (w : World) : Calls Tryd.prog 27 #[.int .i64 26] w fun e w' => e = .returned (.string (partsS 26)) ∧ w = w' := by
  have hp : partsS 26 = ⟨#[100]⟩ := rfl
  rw [hp]
  go_enter Tryd.func27, Tryd.ntmps27
  go_wp2_with fail
  go_ret
  exact ⟨rfl, rfl⟩
set_option maxHeartbeats 4000000 in
theorem parts_at_27 (w : World) : Calls Tryd.prog 27 #[.int .i64 27] w fun e w' => e = .returned (.string (partsS 27)) ∧ w = w' := by
  have hp : partsS 27 = ⟨#[100]⟩ := rfl
  rw [hp]
  go_enter Tryd.func27, Tryd.ntmps27
  go_wp2_with fail
  go_ret
  exact ⟨rfl, rfl⟩
set_option maxHeartbeats 4000000 in
theorem parts_at_28 (w : World) : Calls Tryd.prog 27 #[.int .i64 28] w fun e w' => e = .returned (.string (partsS 28)) ∧ w = w' := by
  have hp : partsS 28 = ⟨#[99, 110, 100]⟩ := rfl
  rw [hp]
  go_enter Tryd.func27, Tryd.ntmps27
  go_wp2_with fail
  go_ret
  exact ⟨rfl, rfl⟩
set_option maxHeartbeats 4000000 in
theorem parts_at_29 (w : World) : Calls Tryd.prog 27 #[.int .i64 29] w fun e w' => e = .returned (.string (partsS 29)) ∧ w = w' := by
  have hp : partsS 29 = ⟨#[99, 100]⟩ := rfl
  rw [hp]
  go_enter Tryd.func27, Tryd.ntmps27
  go_wp2_with fail
  go_ret
  exact ⟨rfl, rfl⟩
set_option maxHeartbeats 4000000 in
theorem parts_str (k : Int) (w : World) : Calls Tryd.prog 27 #[.int .i64 k] w fun e w' => e = .returned (.string (partsS k)) ∧ w = w' := by
  by_cases h0 : k = 0
  · subst h0; exact parts_at_0 w
  by_cases h1 : k = 1
  · subst h1; exact parts_at_1 w
  by_cases h30 : k = 30
  · subst h30; exact parts_at_30 w
  by_cases h2 : k = 2
  · subst h2; exact parts_at_2 w
  by_cases h4 : k = 4
  · subst h4; exact parts_at_4 w
  by_cases h5 : k = 5
  · subst h5; exact parts_at_5 w
  by_cases h6 : k = 6
  · subst h6; exact parts_at_6 w
  by_cases h7 : k = 7
  · subst h7; exact parts_at_7 w
  by_cases h8 : k = 8
  · subst h8; exact parts_at_8 w
  by_cases h16 : k = 16
  · subst h16; exact parts_at_16 w
  by_cases h20 : k = 20
  · subst h20; exact parts_at_20 w
  by_cases h25 : k = 25
  · subst h25; exact parts_at_25 w
  by_cases h18 : k = 18
  · subst h18; exact parts_at_18 w
  by_cases h22 : k = 22
  · subst h22; exact parts_at_22 w
  by_cases h17 : k = 17
  · subst h17; exact parts_at_17 w
  by_cases h21 : k = 21
  · subst h21; exact parts_at_21 w
  by_cases h24 : k = 24
  · subst h24; exact parts_at_24 w
  by_cases h26 : k = 26
  · subst h26; exact parts_at_26 w
  by_cases h27 : k = 27
  · subst h27; exact parts_at_27 w
  by_cases h28 : k = 28
  · subst h28; exact parts_at_28 w
  by_cases h29 : k = 29
  · subst h29; exact parts_at_29 w
  have hp : partsS k = ⟨#[]⟩ := by
    unfold partsS
    rw [if_neg h0, if_neg h1, if_neg h30, if_neg h2, if_neg h4, if_neg h5, if_neg h6, if_neg h7, if_neg h8, if_neg h16, if_neg h20, if_neg h25, if_neg h18, if_neg h22, if_neg h17, if_neg h21, if_neg h24, if_neg h26, if_neg h27, if_neg h28, if_neg h29]
  rw [hp]
  have b0 : (k == 0) = false := beq_eq_false_iff_ne.2 h0
  have b1 : (k == 1) = false := beq_eq_false_iff_ne.2 h1
  have b30 : (k == 30) = false := beq_eq_false_iff_ne.2 h30
  have b2 : (k == 2) = false := beq_eq_false_iff_ne.2 h2
  have b4 : (k == 4) = false := beq_eq_false_iff_ne.2 h4
  have b5 : (k == 5) = false := beq_eq_false_iff_ne.2 h5
  have b6 : (k == 6) = false := beq_eq_false_iff_ne.2 h6
  have b7 : (k == 7) = false := beq_eq_false_iff_ne.2 h7
  have b8 : (k == 8) = false := beq_eq_false_iff_ne.2 h8
  have b16 : (k == 16) = false := beq_eq_false_iff_ne.2 h16
  have b20 : (k == 20) = false := beq_eq_false_iff_ne.2 h20
  have b25 : (k == 25) = false := beq_eq_false_iff_ne.2 h25
  have b18 : (k == 18) = false := beq_eq_false_iff_ne.2 h18
  have b22 : (k == 22) = false := beq_eq_false_iff_ne.2 h22
  have b17 : (k == 17) = false := beq_eq_false_iff_ne.2 h17
  have b21 : (k == 21) = false := beq_eq_false_iff_ne.2 h21
  have b24 : (k == 24) = false := beq_eq_false_iff_ne.2 h24
  have b26 : (k == 26) = false := beq_eq_false_iff_ne.2 h26
  have b27 : (k == 27) = false := beq_eq_false_iff_ne.2 h27
  have b28 : (k == 28) = false := beq_eq_false_iff_ne.2 h28
  have b29 : (k == 29) = false := beq_eq_false_iff_ne.2 h29
  go_enter Tryd.func27, Tryd.ntmps27
  go_wp2_with fail
  go_ret
  exact ⟨rfl, rfl⟩
set_option maxHeartbeats 8000000 in
theorem put_nums (l : List Int) (hl : ∀ (i : Nat) (hi : i < l.length), 0 ≤ l[i] ∧ l[i] ≤ MX) (hn : l.length ≤ 1000) (b : Nat) (w : World) (hb : w.heap[b]? = some (.cells (intRow l) 3 (0, 0))) :
    Calls Tryd.prog 18 #[.slice (some ⟨b, 0, none⟩) l.length l.length] w fun e w' => e = .returned (.string (numsT l)) ∧ Below w.heap.size w w' := by
  have HL := Lib.hid hl
  have HB := Lib.hid hb
  have TK := Lib.hid (fun (i : Nat) (hi : i < l.length) => (show numsT (l.take i) ++ numT l[i] = numsT (l.take (i + 1)) by rw [List.take_succ_eq_append_getElem hi, numsT_append, numsT_one]))
  have TE := Lib.hid (show numsT (l.take l.length) = numsT l by rw [List.take_length])
  have TS := Lib.hid (fun (i : Nat) => (show (numsT (l.take i)).size ≤ 100000 by
    have h1 := numsT_size (l.take i)
    rw [List.length_take] at h1
    omega))
  have CL := Lib.hid (fun (i : Nat) (hi : i < l.length) (w' : World) (he : w'.heap[b]? = w.heap[b]?) => (show w'.cell? ⟨b, i, none⟩ = some (.int .i64 l[i]) by
    rw [cell_of_row _ _ _ _ _ _ (he.trans hb)]
    simp [intRow, hi]))
  obtain ⟨n, hln⟩ : ∃ n, l.length = n := ⟨_, rfl⟩
  have HN := Lib.hid hln
  rw [hln] at hn ⊢
  clear hb hl hln
  go_enter Tryd.func18, Tryd.ntmps18
  go_upto_region 3 with (fail)
  go_loopw [3, 4] (fun s3 s4 wr => ∃ (i : Nat), i ≤ n ∧ s4 = .int .i64 (i : Int) ∧ s3 = .string (numsT (l.take i)) ∧ Below w.heap.size w wr) (fun _ s4 _ => n - (intOf s4).toNat)
  case atStart => exact ⟨0, by omega, rfl, rfl, Below.refl _ _⟩
  case round =>
    obtain ⟨i, hi, rfl, rfl, hbel⟩ := hrel
    have BEL := Lib.hid hbel
    clear hbel
    by_cases hin : i < n
    · have hinI : (i : Int) < (n : Int) := by omega
      have hi0 : (0 : Int) ≤ (i : Int) := by omega
      have hil : i < l.length := by rw [HN.out]; exact hin
      obtain ⟨h0, h1⟩ := HL.out i hil
      have cx := CL.out i hil wr (BEL.out.block _ (lt_row HB.out))
      have tk := TK.out i hil
      obtain ⟨x, hx⟩ : ∃ x, l[i] = x := ⟨_, rfl⟩
      rw [hx] at h0 h1 cx tk
      have TKI := Lib.hid tk
      have ts := TS.out i
      have hw : IntKind.u64.wrap x = x := by rw [IntKind.wrap_u64]; unfold MX at h1; omega
      have PK := Lib.hid (show Calls Tryd.prog 30 #[.int .u64 x] wr fun e w' => e = .returned (.tuple #[.string (numT x), .int .i64 0]) ∧ Below wr.heap.size wr w' from by
        have h := refPut_ok (BitVec.ofInt 64 x) (num_fits x h0 h1) wr
        rw [← wrap_n64 x, hw] at h
        exact h)
      have hz8 := (numT_size x).2
      obtain ⟨sx, hsx⟩ : ∃ s, (numT x).size = s := ⟨_, rfl⟩
      obtain ⟨ss, hss⟩ : ∃ s, (numsT (l.take i)).size = s := ⟨_, rfl⟩
      rw [hsx] at hz8
      rw [hss] at ts
      generalize numT x = NX at *
      generalize numsT (l.take i) = NS at *
      have hbig : ¬ 9223372036854775807 < ss + sx := by omega
      clear tk hx h0 h1
      go_upto_region 5 with (fail)
      go_wp2_with fail
      with_reducible refine PK.out.mono ?_
      rintro e w3 ⟨rfl, hb3⟩
      have B3 := Lib.hid (BEL.out.trans (hb3.mono BEL.out.size))
      clear hb3 PK
      go_wp2_with fail
      go_roundw
      case rel => exact ⟨i + 1, by omega, by go_num, by first | (rw [TKI.out]; done) | (rw [TKI.out]; rfl), B3.out⟩
      case measure => (simp [intOf] <;> omega)
    · obtain rfl : i = n := by omega
      have hinI : ¬ (i : Int) < (i : Int) := by omega
      have hT : numsT (l.take i) = numsT l := by have h := TE.out; rw [HN.out] at h; exact h
      rw [hT]
      go_wp2_with fail
      go_ret
      exact ⟨rfl, BEL.out⟩
set_option maxHeartbeats 4000000 in
theorem docText_at (D : ByteArray) (w : World) (hD : D.size ≤ 65535) : Calls Tryd.prog 17 #[.string D] w fun e w' => e = .returned (.tuple #[.string (numT (D.size : Int) ++ D), .int .i64 0]) ∧ Below w.heap.size w w' := by
  obtain ⟨n, hn⟩ : ∃ n, D.size = n := ⟨_, rfl⟩
  rw [hn] at hD ⊢
  have hw : IntKind.u64.wrap (n : Int) = (n : Int) := by rw [IntKind.wrap_u64]; omega
  have PT := Lib.hid (fun (w' : World) => (show Calls Tryd.prog 30 #[.int .u64 (n : Int)] w' fun e w'' => e = .returned (.tuple #[.string (numT (n : Int)), .int .i64 0]) ∧ Below w'.heap.size w' w'' from by
    have h := refPut_ok (BitVec.ofInt 64 (n : Int)) (num_fits (n : Int) (by omega) (by unfold MX; omega)) w'
    rw [← wrap_n64 (n : Int), hw] at h
    exact h))
  have hz8 := (numT_size (n : Int)).2
  obtain ⟨sx, hsx⟩ : ∃ s, (numT (n : Int)).size = s := ⟨_, rfl⟩
  rw [hsx] at hz8
  generalize numT (n : Int) = NX at *
  have hbig : ¬ 9223372036854775807 < sx + n := by omega
  have hI : ¬ (65535 : Int) < (n : Int) := by omega
  go_enter Tryd.func17, Tryd.ntmps17
  go_wp2_with fail
  with_reducible refine (PT.out _).mono ?_
  rintro e w1 ⟨rfl, hb1⟩
  have H1 := Lib.hid hb1
  clear hb1
  go_wp2_with fail
  go_ret2
  exact ⟨rfl, H1.out⟩
set_option maxHeartbeats 4000000 in
theorem asks_any (K S O N C : Int) (F : Bool) (D X : ByteArray) (v : Value) (w : World) : Calls Tryd.prog 11 #[.agg (frC K S O N C F D X v)] w fun e w' => e = .returned (.bool (!(K == 0 || K == 2 || K == 28 || K == 29))) ∧ Below w.heap.size w w' := by
  unfold frC
  have row := heap_alloc_last w (.cells #[.int .i64 K, .int .i64 S, .int .i64 O, .int .i64 N, .int .i64 C, .bool F, .string D, .string X, v] 33)
  have bel := (Below.refl w.heap.size w).alloc (Nat.le_refl _) (.cells #[.int .i64 K, .int .i64 S, .int .i64 O, .int .i64 N, .int .i64 C, .bool F, .string D, .string X, v] 33)
  obtain ⟨Q, hQ⟩ : ∃ Q, (!(K == 0 || K == 2 || K == 28 || K == 29)) = Q := ⟨_, rfl⟩
  rw [hQ]
  have HQ := Lib.hid hQ
  clear hQ
  go_enter Tryd.func11, Tryd.ntmps11
  go_upto_region 1 with (fail)
  generalize w.alloc _ = wa at *
  obtain ⟨c0, c1, c2, c3, c4, c5, c6, c7, c8⟩ := cells9 row
  have B := Lib.hid bel
  clear row bel c1 c2 c3 c4 c5 c6 c7 c8
  by_cases h0 : K = 0
  · have R := Lib.hid (show false = Q by rw [← HQ.out, h0]; rfl)
    subst h0
    go_wp2_with fail
    go_ret
    exact ⟨ret_bool R.out.symm, B.out⟩
  by_cases h2 : K = 2
  · have R := Lib.hid (show false = Q by rw [← HQ.out, h2]; rfl)
    subst h2
    go_wp2_with fail
    go_ret
    exact ⟨ret_bool R.out.symm, B.out⟩
  by_cases h28 : K = 28
  · have R := Lib.hid (show false = Q by rw [← HQ.out, h28]; rfl)
    subst h28
    go_wp2_with fail
    go_ret
    exact ⟨ret_bool R.out.symm, B.out⟩
  by_cases h29 : K = 29
  · have R := Lib.hid (show false = Q by rw [← HQ.out, h29]; rfl)
    subst h29
    go_wp2_with fail
    go_ret
    exact ⟨ret_bool R.out.symm, B.out⟩
  have b0 : (K == 0) = false := beq_eq_false_iff_ne.2 h0
  have b2 : (K == 2) = false := beq_eq_false_iff_ne.2 h2
  have b28 : (K == 28) = false := beq_eq_false_iff_ne.2 h28
  have b29 : (K == 29) = false := beq_eq_false_iff_ne.2 h29
  have R := Lib.hid (show true = Q by rw [← HQ.out, b0, b2, b28, b29]; rfl)
  go_wp2_with fail
  go_ret
  exact ⟨ret_bool R.out.symm, B.out⟩
end Go.Proofs.YtcgbhcmgddgheabDoor
namespace Go.Proofs.YtcgbhcmgddgheabDoor
open Go Go.RowKit Go.BigFrame
set_option linter.unusedSimpArgs false
set_option linter.unusedVariables false
set_option maxRecDepth 100000
/-- What hangs on the kind alone. -/
def lastD (f : Fr) : Prop :=
  if f.K = 0 then 1 ≤ f.N ∧ f.N ≤ 65535 else
  if f.K = 2 then falling f.A else
  if f.K = 6 ∨ f.K = 8 then f.O ≤ MX - f.D.size else
  if f.K = 7 then f.D.size ≠ 0 else
  if f.K = 18 ∨ f.K = 22 then f.N ≤ 1152921504606846976 else
  if f.K = 24 then f.O ≤ f.N ∧ 1 ≤ f.D.size ∧ f.D.size ≤ 20 ∧ f.X.size = 16 else
  if f.K = 26 ∨ f.K = 27 then f.D.size = 8 else True
def numsD (f : Fr) : Prop := (0 ≤ f.S ∧ f.S ≤ MX) ∧ (0 ≤ f.O ∧ f.O ≤ MX) ∧ (0 ≤ f.N ∧ f.N ≤ MX) ∧ (0 ≤ f.C ∧ f.C ≤ MX) ∧ f.D.size ≤ 65535
def noneD (f : Fr) : Prop := (hasF (partsS f.K) 115#8 = true ∨ f.S = 0) ∧ (hasF (partsS f.K) 111#8 = true ∨ f.O = 0) ∧ (hasF (partsS f.K) 110#8 = true ∨ f.N = 0) ∧ (hasF (partsS f.K) 99#8 = true ∨ f.C = 0) ∧
  (hasF (partsS f.K) 100#8 = true ∨ f.D.size = 0) ∧ (hasF (partsS f.K) 102#8 = true ∨ f.F = false) ∧ (hasF (partsS f.K) 120#8 = true ∨ f.X.size = 0) ∧ (hasF (partsS f.K) 97#8 = true ∨ f.A.length = 0)
def okD (f : Fr) : Prop := (partsS f.K).size ≠ 0 ∧ numsD f ∧ noneD f ∧ lastD f
theorem mx_pos : (0 : Int) ≤ MX := by unfold MX; omega
theorem some_iff (f : Fr) (ps : List Nat) (hp : partsL (firstF f) = some ps) : (putF f).isSome = true ↔ (justF f ps ∧ endsF f) := by
  unfold putF
  rw [hp]
  dsimp only
  by_cases h : justF f ps ∧ endsF f
  · rw [if_pos h]; exact ⟨fun _ => h, fun _ => rfl⟩
  · rw [if_neg h]; exact ⟨(fun e => by cases e), fun e => absurd e h⟩
theorem ok_0 (S O N C : Int) (F : Bool) (D X : ByteArray) (A : List (Int × Int)) : (putF ⟨0, S, O, N, C, F, D, X, A⟩).isSome = true ↔ okD ⟨0, S, O, N, C, F, D, X, A⟩ := by
  have hp : partsL (firstF ⟨0, S, O, N, C, F, D, X, A⟩) = some [10] := rfl
  have hps : partsS 0 = ⟨#[110]⟩ := rfl
  rw [some_iff _ _ hp]
  constructor
  · rintro ⟨⟨hfit, hz⟩, hend⟩
    obtain ⟨z1, z2, z3, z4, z5, z6, z7, z8⟩ := hz
    have eS : S = 0 := z1
    have eO : O = 0 := z2
    have eC : C = 0 := z4
    have eF : F = false := z5
    have eD : D.size = 0 := z6
    have eX : X.size = 0 := z7
    have eA : A.length = 0 := z8
    have f10 := hfit 10 (by simp)
    replace f10 : 1 ≤ N ∧ N ≤ 65535 := f10
    have mp := mx_pos
    have mv : MX = 4611686018427387903 := rfl
    refine ⟨by rw [hps]; decide, ⟨⟨?_, ?_⟩, ⟨?_, ?_⟩, ⟨?_, ?_⟩, ⟨?_, ?_⟩, ?_⟩, ⟨?_, ?_, ?_, ?_, ?_, ?_, ?_, ?_⟩, ?_⟩
    · show 0 ≤ S; omega
    · show S ≤ MX; omega
    · show 0 ≤ O; omega
    · show O ≤ MX; omega
    · show 0 ≤ N; omega
    · show N ≤ MX; omega
    · show 0 ≤ C; omega
    · show C ≤ MX; omega
    · show D.size ≤ 65535; omega
    · exact .inr eS
    · exact .inr eO
    · exact .inl (by show hasF (partsS 0) 110#8 = true; rw [hps]; decide)
    · exact .inr eC
    · exact .inr eD
    · exact .inr eF
    · exact .inr eX
    · exact .inr eA
    · exact f10
  · rintro ⟨_, ⟨⟨s1, s2⟩, ⟨o1, o2⟩, ⟨n1, n2⟩, ⟨c1, c2⟩, hd⟩, ⟨q1, q2, q3, q4, q5, q6, q7, q8⟩, hl⟩
    replace s1 : 0 ≤ S := s1
    replace s2 : S ≤ MX := s2
    replace o1 : 0 ≤ O := o1
    replace o2 : O ≤ MX := o2
    replace n1 : 0 ≤ N := n1
    replace n2 : N ≤ MX := n2
    replace c1 : 0 ≤ C := c1
    replace c2 : C ≤ MX := c2
    replace hd : D.size ≤ 65535 := hd
    have eS : S = 0 := by
      rcases q1 with h | h
      · exact absurd h (by show ¬ hasF (partsS 0) 115#8 = true; rw [hps]; decide)
      · exact h
    have eO : O = 0 := by
      rcases q2 with h | h
      · exact absurd h (by show ¬ hasF (partsS 0) 111#8 = true; rw [hps]; decide)
      · exact h
    have eC : C = 0 := by
      rcases q4 with h | h
      · exact absurd h (by show ¬ hasF (partsS 0) 99#8 = true; rw [hps]; decide)
      · exact h
    have eD : D.size = 0 := by
      rcases q5 with h | h
      · exact absurd h (by show ¬ hasF (partsS 0) 100#8 = true; rw [hps]; decide)
      · exact h
    have eF : F = false := by
      rcases q6 with h | h
      · exact absurd h (by show ¬ hasF (partsS 0) 102#8 = true; rw [hps]; decide)
      · exact h
    have eX : X.size = 0 := by
      rcases q7 with h | h
      · exact absurd h (by show ¬ hasF (partsS 0) 120#8 = true; rw [hps]; decide)
      · exact h
    have eA : A.length = 0 := by
      rcases q8 with h | h
      · exact absurd h (by show ¬ hasF (partsS 0) 97#8 = true; rw [hps]; decide)
      · exact h
    replace hl : 1 ≤ N ∧ N ≤ 65535 := hl
    refine ⟨⟨fun p hp => ?_, ?_⟩, ?_⟩
    · rw [List.mem_singleton] at hp
      subst hp
      exact hl
    · exact ⟨eS, eO, rfl, eC, eF, eD, eX, eA⟩
    · exact .inl ⟨show (0 : Int) ≠ 6 by decide, show (0 : Int) ≠ 8 by decide⟩
theorem ok_1 (S O N C : Int) (F : Bool) (D X : ByteArray) (A : List (Int × Int)) : (putF ⟨1, S, O, N, C, F, D, X, A⟩).isSome = true ↔ okD ⟨1, S, O, N, C, F, D, X, A⟩ := by
  have hp : partsL (firstF ⟨1, S, O, N, C, F, D, X, A⟩) = some [] := rfl
  have hps : partsS 1 = ⟨#[45]⟩ := rfl
  rw [some_iff _ _ hp]
  constructor
  · rintro ⟨⟨hfit, hz⟩, hend⟩
    obtain ⟨z1, z2, z3, z4, z5, z6, z7, z8⟩ := hz
    have eS : S = 0 := z1
    have eO : O = 0 := z2
    have eN : N = 0 := z3
    have eC : C = 0 := z4
    have eF : F = false := z5
    have eD : D.size = 0 := z6
    have eX : X.size = 0 := z7
    have eA : A.length = 0 := z8
    have mp := mx_pos
    have mv : MX = 4611686018427387903 := rfl
    refine ⟨by rw [hps]; decide, ⟨⟨?_, ?_⟩, ⟨?_, ?_⟩, ⟨?_, ?_⟩, ⟨?_, ?_⟩, ?_⟩, ⟨?_, ?_, ?_, ?_, ?_, ?_, ?_, ?_⟩, ?_⟩
    · show 0 ≤ S; omega
    · show S ≤ MX; omega
    · show 0 ≤ O; omega
    · show O ≤ MX; omega
    · show 0 ≤ N; omega
    · show N ≤ MX; omega
    · show 0 ≤ C; omega
    · show C ≤ MX; omega
    · show D.size ≤ 65535; omega
    · exact .inr eS
    · exact .inr eO
    · exact .inr eN
    · exact .inr eC
    · exact .inr eD
    · exact .inr eF
    · exact .inr eX
    · exact .inr eA
    · trivial
  · rintro ⟨_, ⟨⟨s1, s2⟩, ⟨o1, o2⟩, ⟨n1, n2⟩, ⟨c1, c2⟩, hd⟩, ⟨q1, q2, q3, q4, q5, q6, q7, q8⟩, hl⟩
    replace s1 : 0 ≤ S := s1
    replace s2 : S ≤ MX := s2
    replace o1 : 0 ≤ O := o1
    replace o2 : O ≤ MX := o2
    replace n1 : 0 ≤ N := n1
    replace n2 : N ≤ MX := n2
    replace c1 : 0 ≤ C := c1
    replace c2 : C ≤ MX := c2
    replace hd : D.size ≤ 65535 := hd
    have eS : S = 0 := by
      rcases q1 with h | h
      · exact absurd h (by show ¬ hasF (partsS 1) 115#8 = true; rw [hps]; decide)
      · exact h
    have eO : O = 0 := by
      rcases q2 with h | h
      · exact absurd h (by show ¬ hasF (partsS 1) 111#8 = true; rw [hps]; decide)
      · exact h
    have eN : N = 0 := by
      rcases q3 with h | h
      · exact absurd h (by show ¬ hasF (partsS 1) 110#8 = true; rw [hps]; decide)
      · exact h
    have eC : C = 0 := by
      rcases q4 with h | h
      · exact absurd h (by show ¬ hasF (partsS 1) 99#8 = true; rw [hps]; decide)
      · exact h
    have eD : D.size = 0 := by
      rcases q5 with h | h
      · exact absurd h (by show ¬ hasF (partsS 1) 100#8 = true; rw [hps]; decide)
      · exact h
    have eF : F = false := by
      rcases q6 with h | h
      · exact absurd h (by show ¬ hasF (partsS 1) 102#8 = true; rw [hps]; decide)
      · exact h
    have eX : X.size = 0 := by
      rcases q7 with h | h
      · exact absurd h (by show ¬ hasF (partsS 1) 120#8 = true; rw [hps]; decide)
      · exact h
    have eA : A.length = 0 := by
      rcases q8 with h | h
      · exact absurd h (by show ¬ hasF (partsS 1) 97#8 = true; rw [hps]; decide)
      · exact h
    refine ⟨⟨fun p hp => ?_, ?_⟩, ?_⟩
    · cases hp
    · exact ⟨eS, eO, eN, eC, eF, eD, eX, eA⟩
    · exact .inl ⟨show (1 : Int) ≠ 6 by decide, show (1 : Int) ≠ 8 by decide⟩
theorem ok_30 (S O N C : Int) (F : Bool) (D X : ByteArray) (A : List (Int × Int)) : (putF ⟨30, S, O, N, C, F, D, X, A⟩).isSome = true ↔ okD ⟨30, S, O, N, C, F, D, X, A⟩ := by
  have hp : partsL (firstF ⟨30, S, O, N, C, F, D, X, A⟩) = some [] := rfl
  have hps : partsS 30 = ⟨#[45]⟩ := rfl
  rw [some_iff _ _ hp]
  constructor
  · rintro ⟨⟨hfit, hz⟩, hend⟩
    obtain ⟨z1, z2, z3, z4, z5, z6, z7, z8⟩ := hz
    have eS : S = 0 := z1
    have eO : O = 0 := z2
    have eN : N = 0 := z3
    have eC : C = 0 := z4
    have eF : F = false := z5
    have eD : D.size = 0 := z6
    have eX : X.size = 0 := z7
    have eA : A.length = 0 := z8
    have mp := mx_pos
    have mv : MX = 4611686018427387903 := rfl
    refine ⟨by rw [hps]; decide, ⟨⟨?_, ?_⟩, ⟨?_, ?_⟩, ⟨?_, ?_⟩, ⟨?_, ?_⟩, ?_⟩, ⟨?_, ?_, ?_, ?_, ?_, ?_, ?_, ?_⟩, ?_⟩
    · show 0 ≤ S; omega
    · show S ≤ MX; omega
    · show 0 ≤ O; omega
    · show O ≤ MX; omega
    · show 0 ≤ N; omega
    · show N ≤ MX; omega
    · show 0 ≤ C; omega
    · show C ≤ MX; omega
    · show D.size ≤ 65535; omega
    · exact .inr eS
    · exact .inr eO
    · exact .inr eN
    · exact .inr eC
    · exact .inr eD
    · exact .inr eF
    · exact .inr eX
    · exact .inr eA
    · trivial
  · rintro ⟨_, ⟨⟨s1, s2⟩, ⟨o1, o2⟩, ⟨n1, n2⟩, ⟨c1, c2⟩, hd⟩, ⟨q1, q2, q3, q4, q5, q6, q7, q8⟩, hl⟩
    replace s1 : 0 ≤ S := s1
    replace s2 : S ≤ MX := s2
    replace o1 : 0 ≤ O := o1
    replace o2 : O ≤ MX := o2
    replace n1 : 0 ≤ N := n1
    replace n2 : N ≤ MX := n2
    replace c1 : 0 ≤ C := c1
    replace c2 : C ≤ MX := c2
    replace hd : D.size ≤ 65535 := hd
    have eS : S = 0 := by
      rcases q1 with h | h
      · exact absurd h (by show ¬ hasF (partsS 30) 115#8 = true; rw [hps]; decide)
      · exact h
    have eO : O = 0 := by
      rcases q2 with h | h
      · exact absurd h (by show ¬ hasF (partsS 30) 111#8 = true; rw [hps]; decide)
      · exact h
    have eN : N = 0 := by
      rcases q3 with h | h
      · exact absurd h (by show ¬ hasF (partsS 30) 110#8 = true; rw [hps]; decide)
      · exact h
    have eC : C = 0 := by
      rcases q4 with h | h
      · exact absurd h (by show ¬ hasF (partsS 30) 99#8 = true; rw [hps]; decide)
      · exact h
    have eD : D.size = 0 := by
      rcases q5 with h | h
      · exact absurd h (by show ¬ hasF (partsS 30) 100#8 = true; rw [hps]; decide)
      · exact h
    have eF : F = false := by
      rcases q6 with h | h
      · exact absurd h (by show ¬ hasF (partsS 30) 102#8 = true; rw [hps]; decide)
      · exact h
    have eX : X.size = 0 := by
      rcases q7 with h | h
      · exact absurd h (by show ¬ hasF (partsS 30) 120#8 = true; rw [hps]; decide)
      · exact h
    have eA : A.length = 0 := by
      rcases q8 with h | h
      · exact absurd h (by show ¬ hasF (partsS 30) 97#8 = true; rw [hps]; decide)
      · exact h
    refine ⟨⟨fun p hp => ?_, ?_⟩, ?_⟩
    · cases hp
    · exact ⟨eS, eO, eN, eC, eF, eD, eX, eA⟩
    · exact .inl ⟨show (30 : Int) ≠ 6 by decide, show (30 : Int) ≠ 8 by decide⟩
theorem ok_2 (S O N C : Int) (F : Bool) (D X : ByteArray) (A : List (Int × Int)) : (putF ⟨2, S, O, N, C, F, D, X, A⟩).isSome = true ↔ okD ⟨2, S, O, N, C, F, D, X, A⟩ := by
  have hp : partsL (firstF ⟨2, S, O, N, C, F, D, X, A⟩) = some [9] := rfl
  have hps : partsS 2 = ⟨#[97, 110]⟩ := rfl
  rw [some_iff _ _ hp]
  constructor
  · rintro ⟨⟨hfit, hz⟩, hend⟩
    obtain ⟨z1, z2, z3, z4, z5, z6, z7, z8⟩ := hz
    have eS : S = 0 := z1
    have eO : O = 0 := z2
    have eC : C = 0 := z4
    have eF : F = false := z5
    have eD : D.size = 0 := z6
    have eX : X.size = 0 := z7
    have f9 := hfit 9 (by simp)
    replace f9 : (0 ≤ N ∧ N ≤ MX) ∧ falling A := f9
    have mp := mx_pos
    have mv : MX = 4611686018427387903 := rfl
    refine ⟨by rw [hps]; decide, ⟨⟨?_, ?_⟩, ⟨?_, ?_⟩, ⟨?_, ?_⟩, ⟨?_, ?_⟩, ?_⟩, ⟨?_, ?_, ?_, ?_, ?_, ?_, ?_, ?_⟩, ?_⟩
    · show 0 ≤ S; omega
    · show S ≤ MX; omega
    · show 0 ≤ O; omega
    · show O ≤ MX; omega
    · show 0 ≤ N; exact f9.1.1
    · show N ≤ MX; exact f9.1.2
    · show 0 ≤ C; omega
    · show C ≤ MX; omega
    · show D.size ≤ 65535; omega
    · exact .inr eS
    · exact .inr eO
    · exact .inl (by show hasF (partsS 2) 110#8 = true; rw [hps]; decide)
    · exact .inr eC
    · exact .inr eD
    · exact .inr eF
    · exact .inr eX
    · exact .inl (by show hasF (partsS 2) 97#8 = true; rw [hps]; decide)
    · exact f9.2
  · rintro ⟨_, ⟨⟨s1, s2⟩, ⟨o1, o2⟩, ⟨n1, n2⟩, ⟨c1, c2⟩, hd⟩, ⟨q1, q2, q3, q4, q5, q6, q7, q8⟩, hl⟩
    replace s1 : 0 ≤ S := s1
    replace s2 : S ≤ MX := s2
    replace o1 : 0 ≤ O := o1
    replace o2 : O ≤ MX := o2
    replace n1 : 0 ≤ N := n1
    replace n2 : N ≤ MX := n2
    replace c1 : 0 ≤ C := c1
    replace c2 : C ≤ MX := c2
    replace hd : D.size ≤ 65535 := hd
    have eS : S = 0 := by
      rcases q1 with h | h
      · exact absurd h (by show ¬ hasF (partsS 2) 115#8 = true; rw [hps]; decide)
      · exact h
    have eO : O = 0 := by
      rcases q2 with h | h
      · exact absurd h (by show ¬ hasF (partsS 2) 111#8 = true; rw [hps]; decide)
      · exact h
    have eC : C = 0 := by
      rcases q4 with h | h
      · exact absurd h (by show ¬ hasF (partsS 2) 99#8 = true; rw [hps]; decide)
      · exact h
    have eD : D.size = 0 := by
      rcases q5 with h | h
      · exact absurd h (by show ¬ hasF (partsS 2) 100#8 = true; rw [hps]; decide)
      · exact h
    have eF : F = false := by
      rcases q6 with h | h
      · exact absurd h (by show ¬ hasF (partsS 2) 102#8 = true; rw [hps]; decide)
      · exact h
    have eX : X.size = 0 := by
      rcases q7 with h | h
      · exact absurd h (by show ¬ hasF (partsS 2) 120#8 = true; rw [hps]; decide)
      · exact h
    replace hl : falling A := hl
    refine ⟨⟨fun p hp => ?_, ?_⟩, ?_⟩
    · rw [List.mem_singleton] at hp
      subst hp
      exact ⟨⟨n1, n2⟩, hl⟩
    · exact ⟨eS, eO, rfl, eC, eF, eD, eX, rfl⟩
    · exact .inl ⟨show (2 : Int) ≠ 6 by decide, show (2 : Int) ≠ 8 by decide⟩
theorem ok_4 (S O N C : Int) (F : Bool) (D X : ByteArray) (A : List (Int × Int)) : (putF ⟨4, S, O, N, C, F, D, X, A⟩).isSome = true ↔ okD ⟨4, S, O, N, C, F, D, X, A⟩ := by
  have hp : partsL (firstF ⟨4, S, O, N, C, F, D, X, A⟩) = some [0, 3, 1] := rfl
  have hps : partsS 4 = ⟨#[115, 99, 111]⟩ := rfl
  rw [some_iff _ _ hp]
  constructor
  · rintro ⟨⟨hfit, hz⟩, hend⟩
    obtain ⟨z1, z2, z3, z4, z5, z6, z7, z8⟩ := hz
    have eN : N = 0 := z3
    have eF : F = false := z5
    have eD : D.size = 0 := z6
    have eX : X.size = 0 := z7
    have eA : A.length = 0 := z8
    have f0 := hfit 0 (by simp)
    have f3 := hfit 3 (by simp)
    have f1 := hfit 1 (by simp)
    replace f0 : 0 ≤ S ∧ S ≤ MX := f0
    replace f3 : 0 ≤ C ∧ C ≤ MX := f3
    replace f1 : 0 ≤ O ∧ O ≤ MX := f1
    have mp := mx_pos
    have mv : MX = 4611686018427387903 := rfl
    refine ⟨by rw [hps]; decide, ⟨⟨?_, ?_⟩, ⟨?_, ?_⟩, ⟨?_, ?_⟩, ⟨?_, ?_⟩, ?_⟩, ⟨?_, ?_, ?_, ?_, ?_, ?_, ?_, ?_⟩, ?_⟩
    · show 0 ≤ S; omega
    · show S ≤ MX; omega
    · show 0 ≤ O; omega
    · show O ≤ MX; omega
    · show 0 ≤ N; omega
    · show N ≤ MX; omega
    · show 0 ≤ C; omega
    · show C ≤ MX; omega
    · show D.size ≤ 65535; omega
    · exact .inl (by show hasF (partsS 4) 115#8 = true; rw [hps]; decide)
    · exact .inl (by show hasF (partsS 4) 111#8 = true; rw [hps]; decide)
    · exact .inr eN
    · exact .inl (by show hasF (partsS 4) 99#8 = true; rw [hps]; decide)
    · exact .inr eD
    · exact .inr eF
    · exact .inr eX
    · exact .inr eA
    · trivial
  · rintro ⟨_, ⟨⟨s1, s2⟩, ⟨o1, o2⟩, ⟨n1, n2⟩, ⟨c1, c2⟩, hd⟩, ⟨q1, q2, q3, q4, q5, q6, q7, q8⟩, hl⟩
    replace s1 : 0 ≤ S := s1
    replace s2 : S ≤ MX := s2
    replace o1 : 0 ≤ O := o1
    replace o2 : O ≤ MX := o2
    replace n1 : 0 ≤ N := n1
    replace n2 : N ≤ MX := n2
    replace c1 : 0 ≤ C := c1
    replace c2 : C ≤ MX := c2
    replace hd : D.size ≤ 65535 := hd
    have eN : N = 0 := by
      rcases q3 with h | h
      · exact absurd h (by show ¬ hasF (partsS 4) 110#8 = true; rw [hps]; decide)
      · exact h
    have eD : D.size = 0 := by
      rcases q5 with h | h
      · exact absurd h (by show ¬ hasF (partsS 4) 100#8 = true; rw [hps]; decide)
      · exact h
    have eF : F = false := by
      rcases q6 with h | h
      · exact absurd h (by show ¬ hasF (partsS 4) 102#8 = true; rw [hps]; decide)
      · exact h
    have eX : X.size = 0 := by
      rcases q7 with h | h
      · exact absurd h (by show ¬ hasF (partsS 4) 120#8 = true; rw [hps]; decide)
      · exact h
    have eA : A.length = 0 := by
      rcases q8 with h | h
      · exact absurd h (by show ¬ hasF (partsS 4) 97#8 = true; rw [hps]; decide)
      · exact h
    refine ⟨⟨fun p hp => ?_, ?_⟩, ?_⟩
    · rcases List.mem_cons.1 hp with rfl | hp
      · exact ⟨s1, s2⟩
      rcases List.mem_cons.1 hp with rfl | hp
      · exact ⟨c1, c2⟩
      rw [List.mem_singleton] at hp
      subst hp
      exact ⟨o1, o2⟩
    · exact ⟨rfl, rfl, eN, rfl, eF, eD, eX, eA⟩
    · exact .inl ⟨show (4 : Int) ≠ 6 by decide, show (4 : Int) ≠ 8 by decide⟩
theorem ok_5 (S O N C : Int) (F : Bool) (D X : ByteArray) (A : List (Int × Int)) : (putF ⟨5, S, O, N, C, F, D, X, A⟩).isSome = true ↔ okD ⟨5, S, O, N, C, F, D, X, A⟩ := by
  have hp : partsL (firstF ⟨5, S, O, N, C, F, D, X, A⟩) = some [0, 3] := rfl
  have hps : partsS 5 = ⟨#[115, 99]⟩ := rfl
  rw [some_iff _ _ hp]
  constructor
  · rintro ⟨⟨hfit, hz⟩, hend⟩
    obtain ⟨z1, z2, z3, z4, z5, z6, z7, z8⟩ := hz
    have eO : O = 0 := z2
    have eN : N = 0 := z3
    have eF : F = false := z5
    have eD : D.size = 0 := z6
    have eX : X.size = 0 := z7
    have eA : A.length = 0 := z8
    have f0 := hfit 0 (by simp)
    have f3 := hfit 3 (by simp)
    replace f0 : 0 ≤ S ∧ S ≤ MX := f0
    replace f3 : 0 ≤ C ∧ C ≤ MX := f3
    have mp := mx_pos
    have mv : MX = 4611686018427387903 := rfl
    refine ⟨by rw [hps]; decide, ⟨⟨?_, ?_⟩, ⟨?_, ?_⟩, ⟨?_, ?_⟩, ⟨?_, ?_⟩, ?_⟩, ⟨?_, ?_, ?_, ?_, ?_, ?_, ?_, ?_⟩, ?_⟩
    · show 0 ≤ S; omega
    · show S ≤ MX; omega
    · show 0 ≤ O; omega
    · show O ≤ MX; omega
    · show 0 ≤ N; omega
    · show N ≤ MX; omega
    · show 0 ≤ C; omega
    · show C ≤ MX; omega
    · show D.size ≤ 65535; omega
    · exact .inl (by show hasF (partsS 5) 115#8 = true; rw [hps]; decide)
    · exact .inr eO
    · exact .inr eN
    · exact .inl (by show hasF (partsS 5) 99#8 = true; rw [hps]; decide)
    · exact .inr eD
    · exact .inr eF
    · exact .inr eX
    · exact .inr eA
    · trivial
  · rintro ⟨_, ⟨⟨s1, s2⟩, ⟨o1, o2⟩, ⟨n1, n2⟩, ⟨c1, c2⟩, hd⟩, ⟨q1, q2, q3, q4, q5, q6, q7, q8⟩, hl⟩
    replace s1 : 0 ≤ S := s1
    replace s2 : S ≤ MX := s2
    replace o1 : 0 ≤ O := o1
    replace o2 : O ≤ MX := o2
    replace n1 : 0 ≤ N := n1
    replace n2 : N ≤ MX := n2
    replace c1 : 0 ≤ C := c1
    replace c2 : C ≤ MX := c2
    replace hd : D.size ≤ 65535 := hd
    have eO : O = 0 := by
      rcases q2 with h | h
      · exact absurd h (by show ¬ hasF (partsS 5) 111#8 = true; rw [hps]; decide)
      · exact h
    have eN : N = 0 := by
      rcases q3 with h | h
      · exact absurd h (by show ¬ hasF (partsS 5) 110#8 = true; rw [hps]; decide)
      · exact h
    have eD : D.size = 0 := by
      rcases q5 with h | h
      · exact absurd h (by show ¬ hasF (partsS 5) 100#8 = true; rw [hps]; decide)
      · exact h
    have eF : F = false := by
      rcases q6 with h | h
      · exact absurd h (by show ¬ hasF (partsS 5) 102#8 = true; rw [hps]; decide)
      · exact h
    have eX : X.size = 0 := by
      rcases q7 with h | h
      · exact absurd h (by show ¬ hasF (partsS 5) 120#8 = true; rw [hps]; decide)
      · exact h
    have eA : A.length = 0 := by
      rcases q8 with h | h
      · exact absurd h (by show ¬ hasF (partsS 5) 97#8 = true; rw [hps]; decide)
      · exact h
    refine ⟨⟨fun p hp => ?_, ?_⟩, ?_⟩
    · rcases List.mem_cons.1 hp with rfl | hp
      · exact ⟨s1, s2⟩
      rw [List.mem_singleton] at hp
      subst hp
      exact ⟨c1, c2⟩
    · exact ⟨rfl, eO, eN, rfl, eF, eD, eX, eA⟩
    · exact .inl ⟨show (5 : Int) ≠ 6 by decide, show (5 : Int) ≠ 8 by decide⟩
theorem ok_6 (S O N C : Int) (F : Bool) (D X : ByteArray) (A : List (Int × Int)) : (putF ⟨6, S, O, N, C, F, D, X, A⟩).isSome = true ↔ okD ⟨6, S, O, N, C, F, D, X, A⟩ := by
  have hp : partsL (firstF ⟨6, S, O, N, C, F, D, X, A⟩) = some [1, 4] := rfl
  have hps : partsS 6 = ⟨#[111, 100]⟩ := rfl
  rw [some_iff _ _ hp]
  constructor
  · rintro ⟨⟨hfit, hz⟩, hend⟩
    obtain ⟨z1, z2, z3, z4, z5, z6, z7, z8⟩ := hz
    have eS : S = 0 := z1
    have eN : N = 0 := z3
    have eC : C = 0 := z4
    have eF : F = false := z5
    have eX : X.size = 0 := z7
    have eA : A.length = 0 := z8
    have f1 := hfit 1 (by simp)
    have f4 := hfit 4 (by simp)
    replace f1 : 0 ≤ O ∧ O ≤ MX := f1
    replace f4 : (0 : Int) ≤ D.size ∧ (D.size : Int) ≤ 65535 := f4
    have hen : O ≤ MX - D.size := by
      rcases hend with h | h
      · exact absurd rfl h.1
      · exact h
    have mp := mx_pos
    have mv : MX = 4611686018427387903 := rfl
    refine ⟨by rw [hps]; decide, ⟨⟨?_, ?_⟩, ⟨?_, ?_⟩, ⟨?_, ?_⟩, ⟨?_, ?_⟩, ?_⟩, ⟨?_, ?_, ?_, ?_, ?_, ?_, ?_, ?_⟩, ?_⟩
    · show 0 ≤ S; omega
    · show S ≤ MX; omega
    · show 0 ≤ O; omega
    · show O ≤ MX; omega
    · show 0 ≤ N; omega
    · show N ≤ MX; omega
    · show 0 ≤ C; omega
    · show C ≤ MX; omega
    · show D.size ≤ 65535; omega
    · exact .inr eS
    · exact .inl (by show hasF (partsS 6) 111#8 = true; rw [hps]; decide)
    · exact .inr eN
    · exact .inr eC
    · exact .inl (by show hasF (partsS 6) 100#8 = true; rw [hps]; decide)
    · exact .inr eF
    · exact .inr eX
    · exact .inr eA
    · exact hen
  · rintro ⟨_, ⟨⟨s1, s2⟩, ⟨o1, o2⟩, ⟨n1, n2⟩, ⟨c1, c2⟩, hd⟩, ⟨q1, q2, q3, q4, q5, q6, q7, q8⟩, hl⟩
    replace s1 : 0 ≤ S := s1
    replace s2 : S ≤ MX := s2
    replace o1 : 0 ≤ O := o1
    replace o2 : O ≤ MX := o2
    replace n1 : 0 ≤ N := n1
    replace n2 : N ≤ MX := n2
    replace c1 : 0 ≤ C := c1
    replace c2 : C ≤ MX := c2
    replace hd : D.size ≤ 65535 := hd
    have eS : S = 0 := by
      rcases q1 with h | h
      · exact absurd h (by show ¬ hasF (partsS 6) 115#8 = true; rw [hps]; decide)
      · exact h
    have eN : N = 0 := by
      rcases q3 with h | h
      · exact absurd h (by show ¬ hasF (partsS 6) 110#8 = true; rw [hps]; decide)
      · exact h
    have eC : C = 0 := by
      rcases q4 with h | h
      · exact absurd h (by show ¬ hasF (partsS 6) 99#8 = true; rw [hps]; decide)
      · exact h
    have eF : F = false := by
      rcases q6 with h | h
      · exact absurd h (by show ¬ hasF (partsS 6) 102#8 = true; rw [hps]; decide)
      · exact h
    have eX : X.size = 0 := by
      rcases q7 with h | h
      · exact absurd h (by show ¬ hasF (partsS 6) 120#8 = true; rw [hps]; decide)
      · exact h
    have eA : A.length = 0 := by
      rcases q8 with h | h
      · exact absurd h (by show ¬ hasF (partsS 6) 97#8 = true; rw [hps]; decide)
      · exact h
    replace hl : O ≤ MX - D.size := hl
    refine ⟨⟨fun p hp => ?_, ?_⟩, ?_⟩
    · rcases List.mem_cons.1 hp with rfl | hp
      · exact ⟨o1, o2⟩
      rw [List.mem_singleton] at hp
      subst hp
      show (0 : Int) ≤ D.size ∧ (D.size : Int) ≤ 65535; omega
    · exact ⟨eS, rfl, eN, eC, eF, rfl, eX, eA⟩
    · exact .inr hl
theorem ok_7 (S O N C : Int) (F : Bool) (D X : ByteArray) (A : List (Int × Int)) : (putF ⟨7, S, O, N, C, F, D, X, A⟩).isSome = true ↔ okD ⟨7, S, O, N, C, F, D, X, A⟩ := by
  have hp : partsL (firstF ⟨7, S, O, N, C, F, D, X, A⟩) = some [4] := rfl
  have hps : partsS 7 = ⟨#[100]⟩ := rfl
  rw [some_iff _ _ hp]
  constructor
  · rintro ⟨⟨hfit, hz⟩, hend⟩
    obtain ⟨z1, z2, z3, z4, z5, z6, z7, z8⟩ := hz
    have eS : S = 0 := z1
    have eO : O = 0 := z2
    have eN : N = 0 := z3
    have eC : C = 0 := z4
    have eF : F = false := z5
    have eX : X.size = 0 := z7
    have eA : A.length = 0 := z8
    have f4 := hfit 4 (by simp)
    replace f4 : (1 : Int) ≤ D.size ∧ (D.size : Int) ≤ 65535 := f4
    have mp := mx_pos
    have mv : MX = 4611686018427387903 := rfl
    refine ⟨by rw [hps]; decide, ⟨⟨?_, ?_⟩, ⟨?_, ?_⟩, ⟨?_, ?_⟩, ⟨?_, ?_⟩, ?_⟩, ⟨?_, ?_, ?_, ?_, ?_, ?_, ?_, ?_⟩, ?_⟩
    · show 0 ≤ S; omega
    · show S ≤ MX; omega
    · show 0 ≤ O; omega
    · show O ≤ MX; omega
    · show 0 ≤ N; omega
    · show N ≤ MX; omega
    · show 0 ≤ C; omega
    · show C ≤ MX; omega
    · show D.size ≤ 65535; omega
    · exact .inr eS
    · exact .inr eO
    · exact .inr eN
    · exact .inr eC
    · exact .inl (by show hasF (partsS 7) 100#8 = true; rw [hps]; decide)
    · exact .inr eF
    · exact .inr eX
    · exact .inr eA
    · show D.size ≠ 0; omega
  · rintro ⟨_, ⟨⟨s1, s2⟩, ⟨o1, o2⟩, ⟨n1, n2⟩, ⟨c1, c2⟩, hd⟩, ⟨q1, q2, q3, q4, q5, q6, q7, q8⟩, hl⟩
    replace s1 : 0 ≤ S := s1
    replace s2 : S ≤ MX := s2
    replace o1 : 0 ≤ O := o1
    replace o2 : O ≤ MX := o2
    replace n1 : 0 ≤ N := n1
    replace n2 : N ≤ MX := n2
    replace c1 : 0 ≤ C := c1
    replace c2 : C ≤ MX := c2
    replace hd : D.size ≤ 65535 := hd
    have eS : S = 0 := by
      rcases q1 with h | h
      · exact absurd h (by show ¬ hasF (partsS 7) 115#8 = true; rw [hps]; decide)
      · exact h
    have eO : O = 0 := by
      rcases q2 with h | h
      · exact absurd h (by show ¬ hasF (partsS 7) 111#8 = true; rw [hps]; decide)
      · exact h
    have eN : N = 0 := by
      rcases q3 with h | h
      · exact absurd h (by show ¬ hasF (partsS 7) 110#8 = true; rw [hps]; decide)
      · exact h
    have eC : C = 0 := by
      rcases q4 with h | h
      · exact absurd h (by show ¬ hasF (partsS 7) 99#8 = true; rw [hps]; decide)
      · exact h
    have eF : F = false := by
      rcases q6 with h | h
      · exact absurd h (by show ¬ hasF (partsS 7) 102#8 = true; rw [hps]; decide)
      · exact h
    have eX : X.size = 0 := by
      rcases q7 with h | h
      · exact absurd h (by show ¬ hasF (partsS 7) 120#8 = true; rw [hps]; decide)
      · exact h
    have eA : A.length = 0 := by
      rcases q8 with h | h
      · exact absurd h (by show ¬ hasF (partsS 7) 97#8 = true; rw [hps]; decide)
      · exact h
    replace hl : D.size ≠ 0 := hl
    refine ⟨⟨fun p hp => ?_, ?_⟩, ?_⟩
    · rw [List.mem_singleton] at hp
      subst hp
      show (1 : Int) ≤ D.size ∧ (D.size : Int) ≤ 65535; omega
    · exact ⟨eS, eO, eN, eC, eF, rfl, eX, eA⟩
    · exact .inl ⟨show (7 : Int) ≠ 6 by decide, show (7 : Int) ≠ 8 by decide⟩
theorem ok_16 (S O N C : Int) (F : Bool) (D X : ByteArray) (A : List (Int × Int)) : (putF ⟨16, S, O, N, C, F, D, X, A⟩).isSome = true ↔ okD ⟨16, S, O, N, C, F, D, X, A⟩ := by
  have hp : partsL (firstF ⟨16, S, O, N, C, F, D, X, A⟩) = some [2] := rfl
  have hps : partsS 16 = ⟨#[110]⟩ := rfl
  rw [some_iff _ _ hp]
  constructor
  · rintro ⟨⟨hfit, hz⟩, hend⟩
    obtain ⟨z1, z2, z3, z4, z5, z6, z7, z8⟩ := hz
    have eS : S = 0 := z1
    have eO : O = 0 := z2
    have eC : C = 0 := z4
    have eF : F = false := z5
    have eD : D.size = 0 := z6
    have eX : X.size = 0 := z7
    have eA : A.length = 0 := z8
    have f2 := hfit 2 (by simp)
    replace f2 : 0 ≤ N ∧ N ≤ MX := f2
    have mp := mx_pos
    have mv : MX = 4611686018427387903 := rfl
    refine ⟨by rw [hps]; decide, ⟨⟨?_, ?_⟩, ⟨?_, ?_⟩, ⟨?_, ?_⟩, ⟨?_, ?_⟩, ?_⟩, ⟨?_, ?_, ?_, ?_, ?_, ?_, ?_, ?_⟩, ?_⟩
    · show 0 ≤ S; omega
    · show S ≤ MX; omega
    · show 0 ≤ O; omega
    · show O ≤ MX; omega
    · show 0 ≤ N; omega
    · show N ≤ MX; omega
    · show 0 ≤ C; omega
    · show C ≤ MX; omega
    · show D.size ≤ 65535; omega
    · exact .inr eS
    · exact .inr eO
    · exact .inl (by show hasF (partsS 16) 110#8 = true; rw [hps]; decide)
    · exact .inr eC
    · exact .inr eD
    · exact .inr eF
    · exact .inr eX
    · exact .inr eA
    · trivial
  · rintro ⟨_, ⟨⟨s1, s2⟩, ⟨o1, o2⟩, ⟨n1, n2⟩, ⟨c1, c2⟩, hd⟩, ⟨q1, q2, q3, q4, q5, q6, q7, q8⟩, hl⟩
    replace s1 : 0 ≤ S := s1
    replace s2 : S ≤ MX := s2
    replace o1 : 0 ≤ O := o1
    replace o2 : O ≤ MX := o2
    replace n1 : 0 ≤ N := n1
    replace n2 : N ≤ MX := n2
    replace c1 : 0 ≤ C := c1
    replace c2 : C ≤ MX := c2
    replace hd : D.size ≤ 65535 := hd
    have eS : S = 0 := by
      rcases q1 with h | h
      · exact absurd h (by show ¬ hasF (partsS 16) 115#8 = true; rw [hps]; decide)
      · exact h
    have eO : O = 0 := by
      rcases q2 with h | h
      · exact absurd h (by show ¬ hasF (partsS 16) 111#8 = true; rw [hps]; decide)
      · exact h
    have eC : C = 0 := by
      rcases q4 with h | h
      · exact absurd h (by show ¬ hasF (partsS 16) 99#8 = true; rw [hps]; decide)
      · exact h
    have eD : D.size = 0 := by
      rcases q5 with h | h
      · exact absurd h (by show ¬ hasF (partsS 16) 100#8 = true; rw [hps]; decide)
      · exact h
    have eF : F = false := by
      rcases q6 with h | h
      · exact absurd h (by show ¬ hasF (partsS 16) 102#8 = true; rw [hps]; decide)
      · exact h
    have eX : X.size = 0 := by
      rcases q7 with h | h
      · exact absurd h (by show ¬ hasF (partsS 16) 120#8 = true; rw [hps]; decide)
      · exact h
    have eA : A.length = 0 := by
      rcases q8 with h | h
      · exact absurd h (by show ¬ hasF (partsS 16) 97#8 = true; rw [hps]; decide)
      · exact h
    refine ⟨⟨fun p hp => ?_, ?_⟩, ?_⟩
    · rw [List.mem_singleton] at hp
      subst hp
      exact ⟨n1, n2⟩
    · exact ⟨eS, eO, rfl, eC, eF, eD, eX, eA⟩
    · exact .inl ⟨show (16 : Int) ≠ 6 by decide, show (16 : Int) ≠ 8 by decide⟩
theorem ok_20 (S O N C : Int) (F : Bool) (D X : ByteArray) (A : List (Int × Int)) : (putF ⟨20, S, O, N, C, F, D, X, A⟩).isSome = true ↔ okD ⟨20, S, O, N, C, F, D, X, A⟩ := by
  have hp : partsL (firstF ⟨20, S, O, N, C, F, D, X, A⟩) = some [2] := rfl
  have hps : partsS 20 = ⟨#[110]⟩ := rfl
  rw [some_iff _ _ hp]
  constructor
  · rintro ⟨⟨hfit, hz⟩, hend⟩
    obtain ⟨z1, z2, z3, z4, z5, z6, z7, z8⟩ := hz
    have eS : S = 0 := z1
    have eO : O = 0 := z2
    have eC : C = 0 := z4
    have eF : F = false := z5
    have eD : D.size = 0 := z6
    have eX : X.size = 0 := z7
    have eA : A.length = 0 := z8
    have f2 := hfit 2 (by simp)
    replace f2 : 0 ≤ N ∧ N ≤ MX := f2
    have mp := mx_pos
    have mv : MX = 4611686018427387903 := rfl
    refine ⟨by rw [hps]; decide, ⟨⟨?_, ?_⟩, ⟨?_, ?_⟩, ⟨?_, ?_⟩, ⟨?_, ?_⟩, ?_⟩, ⟨?_, ?_, ?_, ?_, ?_, ?_, ?_, ?_⟩, ?_⟩
    · show 0 ≤ S; omega
    · show S ≤ MX; omega
    · show 0 ≤ O; omega
    · show O ≤ MX; omega
    · show 0 ≤ N; omega
    · show N ≤ MX; omega
    · show 0 ≤ C; omega
    · show C ≤ MX; omega
    · show D.size ≤ 65535; omega
    · exact .inr eS
    · exact .inr eO
    · exact .inl (by show hasF (partsS 20) 110#8 = true; rw [hps]; decide)
    · exact .inr eC
    · exact .inr eD
    · exact .inr eF
    · exact .inr eX
    · exact .inr eA
    · trivial
  · rintro ⟨_, ⟨⟨s1, s2⟩, ⟨o1, o2⟩, ⟨n1, n2⟩, ⟨c1, c2⟩, hd⟩, ⟨q1, q2, q3, q4, q5, q6, q7, q8⟩, hl⟩
    replace s1 : 0 ≤ S := s1
    replace s2 : S ≤ MX := s2
    replace o1 : 0 ≤ O := o1
    replace o2 : O ≤ MX := o2
    replace n1 : 0 ≤ N := n1
    replace n2 : N ≤ MX := n2
    replace c1 : 0 ≤ C := c1
    replace c2 : C ≤ MX := c2
    replace hd : D.size ≤ 65535 := hd
    have eS : S = 0 := by
      rcases q1 with h | h
      · exact absurd h (by show ¬ hasF (partsS 20) 115#8 = true; rw [hps]; decide)
      · exact h
    have eO : O = 0 := by
      rcases q2 with h | h
      · exact absurd h (by show ¬ hasF (partsS 20) 111#8 = true; rw [hps]; decide)
      · exact h
    have eC : C = 0 := by
      rcases q4 with h | h
      · exact absurd h (by show ¬ hasF (partsS 20) 99#8 = true; rw [hps]; decide)
      · exact h
    have eD : D.size = 0 := by
      rcases q5 with h | h
      · exact absurd h (by show ¬ hasF (partsS 20) 100#8 = true; rw [hps]; decide)
      · exact h
    have eF : F = false := by
      rcases q6 with h | h
      · exact absurd h (by show ¬ hasF (partsS 20) 102#8 = true; rw [hps]; decide)
      · exact h
    have eX : X.size = 0 := by
      rcases q7 with h | h
      · exact absurd h (by show ¬ hasF (partsS 20) 120#8 = true; rw [hps]; decide)
      · exact h
    have eA : A.length = 0 := by
      rcases q8 with h | h
      · exact absurd h (by show ¬ hasF (partsS 20) 97#8 = true; rw [hps]; decide)
      · exact h
    refine ⟨⟨fun p hp => ?_, ?_⟩, ?_⟩
    · rw [List.mem_singleton] at hp
      subst hp
      exact ⟨n1, n2⟩
    · exact ⟨eS, eO, rfl, eC, eF, eD, eX, eA⟩
    · exact .inl ⟨show (20 : Int) ≠ 6 by decide, show (20 : Int) ≠ 8 by decide⟩
theorem ok_25 (S O N C : Int) (F : Bool) (D X : ByteArray) (A : List (Int × Int)) : (putF ⟨25, S, O, N, C, F, D, X, A⟩).isSome = true ↔ okD ⟨25, S, O, N, C, F, D, X, A⟩ := by
  have hp : partsL (firstF ⟨25, S, O, N, C, F, D, X, A⟩) = some [2] := rfl
  have hps : partsS 25 = ⟨#[110]⟩ := rfl
  rw [some_iff _ _ hp]
  constructor
  · rintro ⟨⟨hfit, hz⟩, hend⟩
    obtain ⟨z1, z2, z3, z4, z5, z6, z7, z8⟩ := hz
    have eS : S = 0 := z1
    have eO : O = 0 := z2
    have eC : C = 0 := z4
    have eF : F = false := z5
    have eD : D.size = 0 := z6
    have eX : X.size = 0 := z7
    have eA : A.length = 0 := z8
    have f2 := hfit 2 (by simp)
    replace f2 : 0 ≤ N ∧ N ≤ MX := f2
    have mp := mx_pos
    have mv : MX = 4611686018427387903 := rfl
    refine ⟨by rw [hps]; decide, ⟨⟨?_, ?_⟩, ⟨?_, ?_⟩, ⟨?_, ?_⟩, ⟨?_, ?_⟩, ?_⟩, ⟨?_, ?_, ?_, ?_, ?_, ?_, ?_, ?_⟩, ?_⟩
    · show 0 ≤ S; omega
    · show S ≤ MX; omega
    · show 0 ≤ O; omega
    · show O ≤ MX; omega
    · show 0 ≤ N; omega
    · show N ≤ MX; omega
    · show 0 ≤ C; omega
    · show C ≤ MX; omega
    · show D.size ≤ 65535; omega
    · exact .inr eS
    · exact .inr eO
    · exact .inl (by show hasF (partsS 25) 110#8 = true; rw [hps]; decide)
    · exact .inr eC
    · exact .inr eD
    · exact .inr eF
    · exact .inr eX
    · exact .inr eA
    · trivial
  · rintro ⟨_, ⟨⟨s1, s2⟩, ⟨o1, o2⟩, ⟨n1, n2⟩, ⟨c1, c2⟩, hd⟩, ⟨q1, q2, q3, q4, q5, q6, q7, q8⟩, hl⟩
    replace s1 : 0 ≤ S := s1
    replace s2 : S ≤ MX := s2
    replace o1 : 0 ≤ O := o1
    replace o2 : O ≤ MX := o2
    replace n1 : 0 ≤ N := n1
    replace n2 : N ≤ MX := n2
    replace c1 : 0 ≤ C := c1
    replace c2 : C ≤ MX := c2
    replace hd : D.size ≤ 65535 := hd
    have eS : S = 0 := by
      rcases q1 with h | h
      · exact absurd h (by show ¬ hasF (partsS 25) 115#8 = true; rw [hps]; decide)
      · exact h
    have eO : O = 0 := by
      rcases q2 with h | h
      · exact absurd h (by show ¬ hasF (partsS 25) 111#8 = true; rw [hps]; decide)
      · exact h
    have eC : C = 0 := by
      rcases q4 with h | h
      · exact absurd h (by show ¬ hasF (partsS 25) 99#8 = true; rw [hps]; decide)
      · exact h
    have eD : D.size = 0 := by
      rcases q5 with h | h
      · exact absurd h (by show ¬ hasF (partsS 25) 100#8 = true; rw [hps]; decide)
      · exact h
    have eF : F = false := by
      rcases q6 with h | h
      · exact absurd h (by show ¬ hasF (partsS 25) 102#8 = true; rw [hps]; decide)
      · exact h
    have eX : X.size = 0 := by
      rcases q7 with h | h
      · exact absurd h (by show ¬ hasF (partsS 25) 120#8 = true; rw [hps]; decide)
      · exact h
    have eA : A.length = 0 := by
      rcases q8 with h | h
      · exact absurd h (by show ¬ hasF (partsS 25) 97#8 = true; rw [hps]; decide)
      · exact h
    refine ⟨⟨fun p hp => ?_, ?_⟩, ?_⟩
    · rw [List.mem_singleton] at hp
      subst hp
      exact ⟨n1, n2⟩
    · exact ⟨eS, eO, rfl, eC, eF, eD, eX, eA⟩
    · exact .inl ⟨show (25 : Int) ≠ 6 by decide, show (25 : Int) ≠ 8 by decide⟩
theorem ok_18 (S O N C : Int) (F : Bool) (D X : ByteArray) (A : List (Int × Int)) : (putF ⟨18, S, O, N, C, F, D, X, A⟩).isSome = true ↔ okD ⟨18, S, O, N, C, F, D, X, A⟩ := by
  have hp : partsL (firstF ⟨18, S, O, N, C, F, D, X, A⟩) = some [2] := rfl
  have hps : partsS 18 = ⟨#[110]⟩ := rfl
  rw [some_iff _ _ hp]
  constructor
  · rintro ⟨⟨hfit, hz⟩, hend⟩
    obtain ⟨z1, z2, z3, z4, z5, z6, z7, z8⟩ := hz
    have eS : S = 0 := z1
    have eO : O = 0 := z2
    have eC : C = 0 := z4
    have eF : F = false := z5
    have eD : D.size = 0 := z6
    have eX : X.size = 0 := z7
    have eA : A.length = 0 := z8
    have f2 := hfit 2 (by simp)
    replace f2 : 0 ≤ N ∧ N ≤ 1152921504606846976 := f2
    have mp := mx_pos
    have mv : MX = 4611686018427387903 := rfl
    refine ⟨by rw [hps]; decide, ⟨⟨?_, ?_⟩, ⟨?_, ?_⟩, ⟨?_, ?_⟩, ⟨?_, ?_⟩, ?_⟩, ⟨?_, ?_, ?_, ?_, ?_, ?_, ?_, ?_⟩, ?_⟩
    · show 0 ≤ S; omega
    · show S ≤ MX; omega
    · show 0 ≤ O; omega
    · show O ≤ MX; omega
    · show 0 ≤ N; omega
    · show N ≤ MX; omega
    · show 0 ≤ C; omega
    · show C ≤ MX; omega
    · show D.size ≤ 65535; omega
    · exact .inr eS
    · exact .inr eO
    · exact .inl (by show hasF (partsS 18) 110#8 = true; rw [hps]; decide)
    · exact .inr eC
    · exact .inr eD
    · exact .inr eF
    · exact .inr eX
    · exact .inr eA
    · exact f2.2
  · rintro ⟨_, ⟨⟨s1, s2⟩, ⟨o1, o2⟩, ⟨n1, n2⟩, ⟨c1, c2⟩, hd⟩, ⟨q1, q2, q3, q4, q5, q6, q7, q8⟩, hl⟩
    replace s1 : 0 ≤ S := s1
    replace s2 : S ≤ MX := s2
    replace o1 : 0 ≤ O := o1
    replace o2 : O ≤ MX := o2
    replace n1 : 0 ≤ N := n1
    replace n2 : N ≤ MX := n2
    replace c1 : 0 ≤ C := c1
    replace c2 : C ≤ MX := c2
    replace hd : D.size ≤ 65535 := hd
    have eS : S = 0 := by
      rcases q1 with h | h
      · exact absurd h (by show ¬ hasF (partsS 18) 115#8 = true; rw [hps]; decide)
      · exact h
    have eO : O = 0 := by
      rcases q2 with h | h
      · exact absurd h (by show ¬ hasF (partsS 18) 111#8 = true; rw [hps]; decide)
      · exact h
    have eC : C = 0 := by
      rcases q4 with h | h
      · exact absurd h (by show ¬ hasF (partsS 18) 99#8 = true; rw [hps]; decide)
      · exact h
    have eD : D.size = 0 := by
      rcases q5 with h | h
      · exact absurd h (by show ¬ hasF (partsS 18) 100#8 = true; rw [hps]; decide)
      · exact h
    have eF : F = false := by
      rcases q6 with h | h
      · exact absurd h (by show ¬ hasF (partsS 18) 102#8 = true; rw [hps]; decide)
      · exact h
    have eX : X.size = 0 := by
      rcases q7 with h | h
      · exact absurd h (by show ¬ hasF (partsS 18) 120#8 = true; rw [hps]; decide)
      · exact h
    have eA : A.length = 0 := by
      rcases q8 with h | h
      · exact absurd h (by show ¬ hasF (partsS 18) 97#8 = true; rw [hps]; decide)
      · exact h
    replace hl : N ≤ 1152921504606846976 := hl
    refine ⟨⟨fun p hp => ?_, ?_⟩, ?_⟩
    · rw [List.mem_singleton] at hp
      subst hp
      exact ⟨n1, hl⟩
    · exact ⟨eS, eO, rfl, eC, eF, eD, eX, eA⟩
    · exact .inl ⟨show (18 : Int) ≠ 6 by decide, show (18 : Int) ≠ 8 by decide⟩
theorem ok_22 (S O N C : Int) (F : Bool) (D X : ByteArray) (A : List (Int × Int)) : (putF ⟨22, S, O, N, C, F, D, X, A⟩).isSome = true ↔ okD ⟨22, S, O, N, C, F, D, X, A⟩ := by
  have hp : partsL (firstF ⟨22, S, O, N, C, F, D, X, A⟩) = some [2] := rfl
  have hps : partsS 22 = ⟨#[110]⟩ := rfl
  rw [some_iff _ _ hp]
  constructor
  · rintro ⟨⟨hfit, hz⟩, hend⟩
    obtain ⟨z1, z2, z3, z4, z5, z6, z7, z8⟩ := hz
    have eS : S = 0 := z1
    have eO : O = 0 := z2
    have eC : C = 0 := z4
    have eF : F = false := z5
    have eD : D.size = 0 := z6
    have eX : X.size = 0 := z7
    have eA : A.length = 0 := z8
    have f2 := hfit 2 (by simp)
    replace f2 : 0 ≤ N ∧ N ≤ 1152921504606846976 := f2
    have mp := mx_pos
    have mv : MX = 4611686018427387903 := rfl
    refine ⟨by rw [hps]; decide, ⟨⟨?_, ?_⟩, ⟨?_, ?_⟩, ⟨?_, ?_⟩, ⟨?_, ?_⟩, ?_⟩, ⟨?_, ?_, ?_, ?_, ?_, ?_, ?_, ?_⟩, ?_⟩
    · show 0 ≤ S; omega
    · show S ≤ MX; omega
    · show 0 ≤ O; omega
    · show O ≤ MX; omega
    · show 0 ≤ N; omega
    · show N ≤ MX; omega
    · show 0 ≤ C; omega
    · show C ≤ MX; omega
    · show D.size ≤ 65535; omega
    · exact .inr eS
    · exact .inr eO
    · exact .inl (by show hasF (partsS 22) 110#8 = true; rw [hps]; decide)
    · exact .inr eC
    · exact .inr eD
    · exact .inr eF
    · exact .inr eX
    · exact .inr eA
    · exact f2.2
  · rintro ⟨_, ⟨⟨s1, s2⟩, ⟨o1, o2⟩, ⟨n1, n2⟩, ⟨c1, c2⟩, hd⟩, ⟨q1, q2, q3, q4, q5, q6, q7, q8⟩, hl⟩
    replace s1 : 0 ≤ S := s1
    replace s2 : S ≤ MX := s2
    replace o1 : 0 ≤ O := o1
    replace o2 : O ≤ MX := o2
    replace n1 : 0 ≤ N := n1
    replace n2 : N ≤ MX := n2
    replace c1 : 0 ≤ C := c1
    replace c2 : C ≤ MX := c2
    replace hd : D.size ≤ 65535 := hd
    have eS : S = 0 := by
      rcases q1 with h | h
      · exact absurd h (by show ¬ hasF (partsS 22) 115#8 = true; rw [hps]; decide)
      · exact h
    have eO : O = 0 := by
      rcases q2 with h | h
      · exact absurd h (by show ¬ hasF (partsS 22) 111#8 = true; rw [hps]; decide)
      · exact h
    have eC : C = 0 := by
      rcases q4 with h | h
      · exact absurd h (by show ¬ hasF (partsS 22) 99#8 = true; rw [hps]; decide)
      · exact h
    have eD : D.size = 0 := by
      rcases q5 with h | h
      · exact absurd h (by show ¬ hasF (partsS 22) 100#8 = true; rw [hps]; decide)
      · exact h
    have eF : F = false := by
      rcases q6 with h | h
      · exact absurd h (by show ¬ hasF (partsS 22) 102#8 = true; rw [hps]; decide)
      · exact h
    have eX : X.size = 0 := by
      rcases q7 with h | h
      · exact absurd h (by show ¬ hasF (partsS 22) 120#8 = true; rw [hps]; decide)
      · exact h
    have eA : A.length = 0 := by
      rcases q8 with h | h
      · exact absurd h (by show ¬ hasF (partsS 22) 97#8 = true; rw [hps]; decide)
      · exact h
    replace hl : N ≤ 1152921504606846976 := hl
    refine ⟨⟨fun p hp => ?_, ?_⟩, ?_⟩
    · rw [List.mem_singleton] at hp
      subst hp
      exact ⟨n1, hl⟩
    · exact ⟨eS, eO, rfl, eC, eF, eD, eX, eA⟩
    · exact .inl ⟨show (22 : Int) ≠ 6 by decide, show (22 : Int) ≠ 8 by decide⟩
theorem ok_17 (S O N C : Int) (F : Bool) (D X : ByteArray) (A : List (Int × Int)) : (putF ⟨17, S, O, N, C, F, D, X, A⟩).isSome = true ↔ okD ⟨17, S, O, N, C, F, D, X, A⟩ := by
  have hp : partsL (firstF ⟨17, S, O, N, C, F, D, X, A⟩) = some [0, 2] := rfl
  have hps : partsS 17 = ⟨#[115, 110]⟩ := rfl
  rw [some_iff _ _ hp]
  constructor
  · rintro ⟨⟨hfit, hz⟩, hend⟩
    obtain ⟨z1, z2, z3, z4, z5, z6, z7, z8⟩ := hz
    have eO : O = 0 := z2
    have eC : C = 0 := z4
    have eF : F = false := z5
    have eD : D.size = 0 := z6
    have eX : X.size = 0 := z7
    have eA : A.length = 0 := z8
    have f0 := hfit 0 (by simp)
    have f2 := hfit 2 (by simp)
    replace f0 : 0 ≤ S ∧ S ≤ MX := f0
    replace f2 : 0 ≤ N ∧ N ≤ MX := f2
    have mp := mx_pos
    have mv : MX = 4611686018427387903 := rfl
    refine ⟨by rw [hps]; decide, ⟨⟨?_, ?_⟩, ⟨?_, ?_⟩, ⟨?_, ?_⟩, ⟨?_, ?_⟩, ?_⟩, ⟨?_, ?_, ?_, ?_, ?_, ?_, ?_, ?_⟩, ?_⟩
    · show 0 ≤ S; omega
    · show S ≤ MX; omega
    · show 0 ≤ O; omega
    · show O ≤ MX; omega
    · show 0 ≤ N; omega
    · show N ≤ MX; omega
    · show 0 ≤ C; omega
    · show C ≤ MX; omega
    · show D.size ≤ 65535; omega
    · exact .inl (by show hasF (partsS 17) 115#8 = true; rw [hps]; decide)
    · exact .inr eO
    · exact .inl (by show hasF (partsS 17) 110#8 = true; rw [hps]; decide)
    · exact .inr eC
    · exact .inr eD
    · exact .inr eF
    · exact .inr eX
    · exact .inr eA
    · trivial
  · rintro ⟨_, ⟨⟨s1, s2⟩, ⟨o1, o2⟩, ⟨n1, n2⟩, ⟨c1, c2⟩, hd⟩, ⟨q1, q2, q3, q4, q5, q6, q7, q8⟩, hl⟩
    replace s1 : 0 ≤ S := s1
    replace s2 : S ≤ MX := s2
    replace o1 : 0 ≤ O := o1
    replace o2 : O ≤ MX := o2
    replace n1 : 0 ≤ N := n1
    replace n2 : N ≤ MX := n2
    replace c1 : 0 ≤ C := c1
    replace c2 : C ≤ MX := c2
    replace hd : D.size ≤ 65535 := hd
    have eO : O = 0 := by
      rcases q2 with h | h
      · exact absurd h (by show ¬ hasF (partsS 17) 111#8 = true; rw [hps]; decide)
      · exact h
    have eC : C = 0 := by
      rcases q4 with h | h
      · exact absurd h (by show ¬ hasF (partsS 17) 99#8 = true; rw [hps]; decide)
      · exact h
    have eD : D.size = 0 := by
      rcases q5 with h | h
      · exact absurd h (by show ¬ hasF (partsS 17) 100#8 = true; rw [hps]; decide)
      · exact h
    have eF : F = false := by
      rcases q6 with h | h
      · exact absurd h (by show ¬ hasF (partsS 17) 102#8 = true; rw [hps]; decide)
      · exact h
    have eX : X.size = 0 := by
      rcases q7 with h | h
      · exact absurd h (by show ¬ hasF (partsS 17) 120#8 = true; rw [hps]; decide)
      · exact h
    have eA : A.length = 0 := by
      rcases q8 with h | h
      · exact absurd h (by show ¬ hasF (partsS 17) 97#8 = true; rw [hps]; decide)
      · exact h
    refine ⟨⟨fun p hp => ?_, ?_⟩, ?_⟩
    · rcases List.mem_cons.1 hp with rfl | hp
      · exact ⟨s1, s2⟩
      rw [List.mem_singleton] at hp
      subst hp
      exact ⟨n1, n2⟩
    · exact ⟨rfl, eO, rfl, eC, eF, eD, eX, eA⟩
    · exact .inl ⟨show (17 : Int) ≠ 6 by decide, show (17 : Int) ≠ 8 by decide⟩
theorem ok_21 (S O N C : Int) (F : Bool) (D X : ByteArray) (A : List (Int × Int)) : (putF ⟨21, S, O, N, C, F, D, X, A⟩).isSome = true ↔ okD ⟨21, S, O, N, C, F, D, X, A⟩ := by
  have hp : partsL (firstF ⟨21, S, O, N, C, F, D, X, A⟩) = some [0, 2] := rfl
  have hps : partsS 21 = ⟨#[115, 110]⟩ := rfl
  rw [some_iff _ _ hp]
  constructor
  · rintro ⟨⟨hfit, hz⟩, hend⟩
    obtain ⟨z1, z2, z3, z4, z5, z6, z7, z8⟩ := hz
    have eO : O = 0 := z2
    have eC : C = 0 := z4
    have eF : F = false := z5
    have eD : D.size = 0 := z6
    have eX : X.size = 0 := z7
    have eA : A.length = 0 := z8
    have f0 := hfit 0 (by simp)
    have f2 := hfit 2 (by simp)
    replace f0 : 0 ≤ S ∧ S ≤ MX := f0
    replace f2 : 0 ≤ N ∧ N ≤ MX := f2
    have mp := mx_pos
    have mv : MX = 4611686018427387903 := rfl
    refine ⟨by rw [hps]; decide, ⟨⟨?_, ?_⟩, ⟨?_, ?_⟩, ⟨?_, ?_⟩, ⟨?_, ?_⟩, ?_⟩, ⟨?_, ?_, ?_, ?_, ?_, ?_, ?_, ?_⟩, ?_⟩
    · show 0 ≤ S; omega
    · show S ≤ MX; omega
    · show 0 ≤ O; omega
    · show O ≤ MX; omega
    · show 0 ≤ N; omega
    · show N ≤ MX; omega
    · show 0 ≤ C; omega
    · show C ≤ MX; omega
    · show D.size ≤ 65535; omega
    · exact .inl (by show hasF (partsS 21) 115#8 = true; rw [hps]; decide)
    · exact .inr eO
    · exact .inl (by show hasF (partsS 21) 110#8 = true; rw [hps]; decide)
    · exact .inr eC
    · exact .inr eD
    · exact .inr eF
    · exact .inr eX
    · exact .inr eA
    · trivial
  · rintro ⟨_, ⟨⟨s1, s2⟩, ⟨o1, o2⟩, ⟨n1, n2⟩, ⟨c1, c2⟩, hd⟩, ⟨q1, q2, q3, q4, q5, q6, q7, q8⟩, hl⟩
    replace s1 : 0 ≤ S := s1
    replace s2 : S ≤ MX := s2
    replace o1 : 0 ≤ O := o1
    replace o2 : O ≤ MX := o2
    replace n1 : 0 ≤ N := n1
    replace n2 : N ≤ MX := n2
    replace c1 : 0 ≤ C := c1
    replace c2 : C ≤ MX := c2
    replace hd : D.size ≤ 65535 := hd
    have eO : O = 0 := by
      rcases q2 with h | h
      · exact absurd h (by show ¬ hasF (partsS 21) 111#8 = true; rw [hps]; decide)
      · exact h
    have eC : C = 0 := by
      rcases q4 with h | h
      · exact absurd h (by show ¬ hasF (partsS 21) 99#8 = true; rw [hps]; decide)
      · exact h
    have eD : D.size = 0 := by
      rcases q5 with h | h
      · exact absurd h (by show ¬ hasF (partsS 21) 100#8 = true; rw [hps]; decide)
      · exact h
    have eF : F = false := by
      rcases q6 with h | h
      · exact absurd h (by show ¬ hasF (partsS 21) 102#8 = true; rw [hps]; decide)
      · exact h
    have eX : X.size = 0 := by
      rcases q7 with h | h
      · exact absurd h (by show ¬ hasF (partsS 21) 120#8 = true; rw [hps]; decide)
      · exact h
    have eA : A.length = 0 := by
      rcases q8 with h | h
      · exact absurd h (by show ¬ hasF (partsS 21) 97#8 = true; rw [hps]; decide)
      · exact h
    refine ⟨⟨fun p hp => ?_, ?_⟩, ?_⟩
    · rcases List.mem_cons.1 hp with rfl | hp
      · exact ⟨s1, s2⟩
      rw [List.mem_singleton] at hp
      subst hp
      exact ⟨n1, n2⟩
    · exact ⟨rfl, eO, rfl, eC, eF, eD, eX, eA⟩
    · exact .inl ⟨show (21 : Int) ≠ 6 by decide, show (21 : Int) ≠ 8 by decide⟩
theorem ok_24 (S O N C : Int) (F : Bool) (D X : ByteArray) (A : List (Int × Int)) : (putF ⟨24, S, O, N, C, F, D, X, A⟩).isSome = true ↔ okD ⟨24, S, O, N, C, F, D, X, A⟩ := by
  have hp : partsL (firstF ⟨24, S, O, N, C, F, D, X, A⟩) = some [2, 1, 6, 8] := rfl
  have hps : partsS 24 = ⟨#[110, 111, 100, 120]⟩ := rfl
  rw [some_iff _ _ hp]
  constructor
  · rintro ⟨⟨hfit, hz⟩, hend⟩
    obtain ⟨z1, z2, z3, z4, z5, z6, z7, z8⟩ := hz
    have eS : S = 0 := z1
    have eC : C = 0 := z4
    have eF : F = false := z5
    have eA : A.length = 0 := z8
    have f2 := hfit 2 (by simp)
    have f1 := hfit 1 (by simp)
    have f6 := hfit 6 (by simp)
    have f8 := hfit 8 (by simp)
    replace f2 : 0 ≤ N ∧ N ≤ MX := f2
    replace f1 : 0 ≤ O ∧ O ≤ N := f1
    replace f6 : (1 : Int) ≤ D.size ∧ (D.size : Int) ≤ 20 := f6
    replace f8 : (X.size : Int) = 16 := f8
    have mp := mx_pos
    have mv : MX = 4611686018427387903 := rfl
    refine ⟨by rw [hps]; decide, ⟨⟨?_, ?_⟩, ⟨?_, ?_⟩, ⟨?_, ?_⟩, ⟨?_, ?_⟩, ?_⟩, ⟨?_, ?_, ?_, ?_, ?_, ?_, ?_, ?_⟩, ?_⟩
    · show 0 ≤ S; omega
    · show S ≤ MX; omega
    · show 0 ≤ O; omega
    · show O ≤ MX; omega
    · show 0 ≤ N; omega
    · show N ≤ MX; omega
    · show 0 ≤ C; omega
    · show C ≤ MX; omega
    · show D.size ≤ 65535; omega
    · exact .inr eS
    · exact .inl (by show hasF (partsS 24) 111#8 = true; rw [hps]; decide)
    · exact .inl (by show hasF (partsS 24) 110#8 = true; rw [hps]; decide)
    · exact .inr eC
    · exact .inl (by show hasF (partsS 24) 100#8 = true; rw [hps]; decide)
    · exact .inr eF
    · exact .inl (by show hasF (partsS 24) 120#8 = true; rw [hps]; decide)
    · exact .inr eA
    · show O ≤ N ∧ 1 ≤ D.size ∧ D.size ≤ 20 ∧ X.size = 16; omega
  · rintro ⟨_, ⟨⟨s1, s2⟩, ⟨o1, o2⟩, ⟨n1, n2⟩, ⟨c1, c2⟩, hd⟩, ⟨q1, q2, q3, q4, q5, q6, q7, q8⟩, hl⟩
    replace s1 : 0 ≤ S := s1
    replace s2 : S ≤ MX := s2
    replace o1 : 0 ≤ O := o1
    replace o2 : O ≤ MX := o2
    replace n1 : 0 ≤ N := n1
    replace n2 : N ≤ MX := n2
    replace c1 : 0 ≤ C := c1
    replace c2 : C ≤ MX := c2
    replace hd : D.size ≤ 65535 := hd
    have eS : S = 0 := by
      rcases q1 with h | h
      · exact absurd h (by show ¬ hasF (partsS 24) 115#8 = true; rw [hps]; decide)
      · exact h
    have eC : C = 0 := by
      rcases q4 with h | h
      · exact absurd h (by show ¬ hasF (partsS 24) 99#8 = true; rw [hps]; decide)
      · exact h
    have eF : F = false := by
      rcases q6 with h | h
      · exact absurd h (by show ¬ hasF (partsS 24) 102#8 = true; rw [hps]; decide)
      · exact h
    have eA : A.length = 0 := by
      rcases q8 with h | h
      · exact absurd h (by show ¬ hasF (partsS 24) 97#8 = true; rw [hps]; decide)
      · exact h
    replace hl : O ≤ N ∧ 1 ≤ D.size ∧ D.size ≤ 20 ∧ X.size = 16 := hl
    refine ⟨⟨fun p hp => ?_, ?_⟩, ?_⟩
    · rcases List.mem_cons.1 hp with rfl | hp
      · exact ⟨n1, n2⟩
      rcases List.mem_cons.1 hp with rfl | hp
      · exact ⟨o1, hl.1⟩
      rcases List.mem_cons.1 hp with rfl | hp
      · show (1 : Int) ≤ D.size ∧ (D.size : Int) ≤ 20; omega
      rw [List.mem_singleton] at hp
      subst hp
      show (X.size : Int) = 16; omega
    · exact ⟨eS, rfl, rfl, eC, eF, rfl, rfl, eA⟩
    · exact .inl ⟨show (24 : Int) ≠ 6 by decide, show (24 : Int) ≠ 8 by decide⟩
theorem ok_26 (S O N C : Int) (F : Bool) (D X : ByteArray) (A : List (Int × Int)) : (putF ⟨26, S, O, N, C, F, D, X, A⟩).isSome = true ↔ okD ⟨26, S, O, N, C, F, D, X, A⟩ := by
  have hp : partsL (firstF ⟨26, S, O, N, C, F, D, X, A⟩) = some [7] := rfl
  have hps : partsS 26 = ⟨#[100]⟩ := rfl
  rw [some_iff _ _ hp]
  constructor
  · rintro ⟨⟨hfit, hz⟩, hend⟩
    obtain ⟨z1, z2, z3, z4, z5, z6, z7, z8⟩ := hz
    have eS : S = 0 := z1
    have eO : O = 0 := z2
    have eN : N = 0 := z3
    have eC : C = 0 := z4
    have eF : F = false := z5
    have eX : X.size = 0 := z7
    have eA : A.length = 0 := z8
    have f7 := hfit 7 (by simp)
    replace f7 : (D.size : Int) = 8 := f7
    have mp := mx_pos
    have mv : MX = 4611686018427387903 := rfl
    refine ⟨by rw [hps]; decide, ⟨⟨?_, ?_⟩, ⟨?_, ?_⟩, ⟨?_, ?_⟩, ⟨?_, ?_⟩, ?_⟩, ⟨?_, ?_, ?_, ?_, ?_, ?_, ?_, ?_⟩, ?_⟩
    · show 0 ≤ S; omega
    · show S ≤ MX; omega
    · show 0 ≤ O; omega
    · show O ≤ MX; omega
    · show 0 ≤ N; omega
    · show N ≤ MX; omega
    · show 0 ≤ C; omega
    · show C ≤ MX; omega
    · show D.size ≤ 65535; omega
    · exact .inr eS
    · exact .inr eO
    · exact .inr eN
    · exact .inr eC
    · exact .inl (by show hasF (partsS 26) 100#8 = true; rw [hps]; decide)
    · exact .inr eF
    · exact .inr eX
    · exact .inr eA
    · show D.size = 8; omega
  · rintro ⟨_, ⟨⟨s1, s2⟩, ⟨o1, o2⟩, ⟨n1, n2⟩, ⟨c1, c2⟩, hd⟩, ⟨q1, q2, q3, q4, q5, q6, q7, q8⟩, hl⟩
    replace s1 : 0 ≤ S := s1
    replace s2 : S ≤ MX := s2
    replace o1 : 0 ≤ O := o1
    replace o2 : O ≤ MX := o2
    replace n1 : 0 ≤ N := n1
    replace n2 : N ≤ MX := n2
    replace c1 : 0 ≤ C := c1
    replace c2 : C ≤ MX := c2
    replace hd : D.size ≤ 65535 := hd
    have eS : S = 0 := by
      rcases q1 with h | h
      · exact absurd h (by show ¬ hasF (partsS 26) 115#8 = true; rw [hps]; decide)
      · exact h
    have eO : O = 0 := by
      rcases q2 with h | h
      · exact absurd h (by show ¬ hasF (partsS 26) 111#8 = true; rw [hps]; decide)
      · exact h
    have eN : N = 0 := by
      rcases q3 with h | h
      · exact absurd h (by show ¬ hasF (partsS 26) 110#8 = true; rw [hps]; decide)
      · exact h
    have eC : C = 0 := by
      rcases q4 with h | h
      · exact absurd h (by show ¬ hasF (partsS 26) 99#8 = true; rw [hps]; decide)
      · exact h
    have eF : F = false := by
      rcases q6 with h | h
      · exact absurd h (by show ¬ hasF (partsS 26) 102#8 = true; rw [hps]; decide)
      · exact h
    have eX : X.size = 0 := by
      rcases q7 with h | h
      · exact absurd h (by show ¬ hasF (partsS 26) 120#8 = true; rw [hps]; decide)
      · exact h
    have eA : A.length = 0 := by
      rcases q8 with h | h
      · exact absurd h (by show ¬ hasF (partsS 26) 97#8 = true; rw [hps]; decide)
      · exact h
    replace hl : D.size = 8 := hl
    refine ⟨⟨fun p hp => ?_, ?_⟩, ?_⟩
    · rw [List.mem_singleton] at hp
      subst hp
      show (D.size : Int) = 8; omega
    · exact ⟨eS, eO, eN, eC, eF, rfl, eX, eA⟩
    · exact .inl ⟨show (26 : Int) ≠ 6 by decide, show (26 : Int) ≠ 8 by decide⟩
theorem ok_27 (S O N C : Int) (F : Bool) (D X : ByteArray) (A : List (Int × Int)) : (putF ⟨27, S, O, N, C, F, D, X, A⟩).isSome = true ↔ okD ⟨27, S, O, N, C, F, D, X, A⟩ := by
  have hp : partsL (firstF ⟨27, S, O, N, C, F, D, X, A⟩) = some [7] := rfl
  have hps : partsS 27 = ⟨#[100]⟩ := rfl
  rw [some_iff _ _ hp]
  constructor
  · rintro ⟨⟨hfit, hz⟩, hend⟩
    obtain ⟨z1, z2, z3, z4, z5, z6, z7, z8⟩ := hz
    have eS : S = 0 := z1
    have eO : O = 0 := z2
    have eN : N = 0 := z3
    have eC : C = 0 := z4
    have eF : F = false := z5
    have eX : X.size = 0 := z7
    have eA : A.length = 0 := z8
    have f7 := hfit 7 (by simp)
    replace f7 : (D.size : Int) = 8 := f7
    have mp := mx_pos
    have mv : MX = 4611686018427387903 := rfl
    refine ⟨by rw [hps]; decide, ⟨⟨?_, ?_⟩, ⟨?_, ?_⟩, ⟨?_, ?_⟩, ⟨?_, ?_⟩, ?_⟩, ⟨?_, ?_, ?_, ?_, ?_, ?_, ?_, ?_⟩, ?_⟩
    · show 0 ≤ S; omega
    · show S ≤ MX; omega
    · show 0 ≤ O; omega
    · show O ≤ MX; omega
    · show 0 ≤ N; omega
    · show N ≤ MX; omega
    · show 0 ≤ C; omega
    · show C ≤ MX; omega
    · show D.size ≤ 65535; omega
    · exact .inr eS
    · exact .inr eO
    · exact .inr eN
    · exact .inr eC
    · exact .inl (by show hasF (partsS 27) 100#8 = true; rw [hps]; decide)
    · exact .inr eF
    · exact .inr eX
    · exact .inr eA
    · show D.size = 8; omega
  · rintro ⟨_, ⟨⟨s1, s2⟩, ⟨o1, o2⟩, ⟨n1, n2⟩, ⟨c1, c2⟩, hd⟩, ⟨q1, q2, q3, q4, q5, q6, q7, q8⟩, hl⟩
    replace s1 : 0 ≤ S := s1
    replace s2 : S ≤ MX := s2
    replace o1 : 0 ≤ O := o1
    replace o2 : O ≤ MX := o2
    replace n1 : 0 ≤ N := n1
    replace n2 : N ≤ MX := n2
    replace c1 : 0 ≤ C := c1
    replace c2 : C ≤ MX := c2
    replace hd : D.size ≤ 65535 := hd
    have eS : S = 0 := by
      rcases q1 with h | h
      · exact absurd h (by show ¬ hasF (partsS 27) 115#8 = true; rw [hps]; decide)
      · exact h
    have eO : O = 0 := by
      rcases q2 with h | h
      · exact absurd h (by show ¬ hasF (partsS 27) 111#8 = true; rw [hps]; decide)
      · exact h
    have eN : N = 0 := by
      rcases q3 with h | h
      · exact absurd h (by show ¬ hasF (partsS 27) 110#8 = true; rw [hps]; decide)
      · exact h
    have eC : C = 0 := by
      rcases q4 with h | h
      · exact absurd h (by show ¬ hasF (partsS 27) 99#8 = true; rw [hps]; decide)
      · exact h
    have eF : F = false := by
      rcases q6 with h | h
      · exact absurd h (by show ¬ hasF (partsS 27) 102#8 = true; rw [hps]; decide)
      · exact h
    have eX : X.size = 0 := by
      rcases q7 with h | h
      · exact absurd h (by show ¬ hasF (partsS 27) 120#8 = true; rw [hps]; decide)
      · exact h
    have eA : A.length = 0 := by
      rcases q8 with h | h
      · exact absurd h (by show ¬ hasF (partsS 27) 97#8 = true; rw [hps]; decide)
      · exact h
    replace hl : D.size = 8 := hl
    refine ⟨⟨fun p hp => ?_, ?_⟩, ?_⟩
    · rw [List.mem_singleton] at hp
      subst hp
      show (D.size : Int) = 8; omega
    · exact ⟨eS, eO, eN, eC, eF, rfl, eX, eA⟩
    · exact .inl ⟨show (27 : Int) ≠ 6 by decide, show (27 : Int) ≠ 8 by decide⟩
theorem ok_28 (S O N C : Int) (F : Bool) (D X : ByteArray) (A : List (Int × Int)) : (putF ⟨28, S, O, N, C, F, D, X, A⟩).isSome = true ↔ okD ⟨28, S, O, N, C, F, D, X, A⟩ := by
  have hp : partsL (firstF ⟨28, S, O, N, C, F, D, X, A⟩) = some [3, 2, 4] := rfl
  have hps : partsS 28 = ⟨#[99, 110, 100]⟩ := rfl
  rw [some_iff _ _ hp]
  constructor
  · rintro ⟨⟨hfit, hz⟩, hend⟩
    obtain ⟨z1, z2, z3, z4, z5, z6, z7, z8⟩ := hz
    have eS : S = 0 := z1
    have eO : O = 0 := z2
    have eF : F = false := z5
    have eX : X.size = 0 := z7
    have eA : A.length = 0 := z8
    have f3 := hfit 3 (by simp)
    have f2 := hfit 2 (by simp)
    have f4 := hfit 4 (by simp)
    replace f3 : 0 ≤ C ∧ C ≤ MX := f3
    replace f2 : 0 ≤ N ∧ N ≤ MX := f2
    replace f4 : (0 : Int) ≤ D.size ∧ (D.size : Int) ≤ 65535 := f4
    have mp := mx_pos
    have mv : MX = 4611686018427387903 := rfl
    refine ⟨by rw [hps]; decide, ⟨⟨?_, ?_⟩, ⟨?_, ?_⟩, ⟨?_, ?_⟩, ⟨?_, ?_⟩, ?_⟩, ⟨?_, ?_, ?_, ?_, ?_, ?_, ?_, ?_⟩, ?_⟩
    · show 0 ≤ S; omega
    · show S ≤ MX; omega
    · show 0 ≤ O; omega
    · show O ≤ MX; omega
    · show 0 ≤ N; omega
    · show N ≤ MX; omega
    · show 0 ≤ C; omega
    · show C ≤ MX; omega
    · show D.size ≤ 65535; omega
    · exact .inr eS
    · exact .inr eO
    · exact .inl (by show hasF (partsS 28) 110#8 = true; rw [hps]; decide)
    · exact .inl (by show hasF (partsS 28) 99#8 = true; rw [hps]; decide)
    · exact .inl (by show hasF (partsS 28) 100#8 = true; rw [hps]; decide)
    · exact .inr eF
    · exact .inr eX
    · exact .inr eA
    · trivial
  · rintro ⟨_, ⟨⟨s1, s2⟩, ⟨o1, o2⟩, ⟨n1, n2⟩, ⟨c1, c2⟩, hd⟩, ⟨q1, q2, q3, q4, q5, q6, q7, q8⟩, hl⟩
    replace s1 : 0 ≤ S := s1
    replace s2 : S ≤ MX := s2
    replace o1 : 0 ≤ O := o1
    replace o2 : O ≤ MX := o2
    replace n1 : 0 ≤ N := n1
    replace n2 : N ≤ MX := n2
    replace c1 : 0 ≤ C := c1
    replace c2 : C ≤ MX := c2
    replace hd : D.size ≤ 65535 := hd
    have eS : S = 0 := by
      rcases q1 with h | h
      · exact absurd h (by show ¬ hasF (partsS 28) 115#8 = true; rw [hps]; decide)
      · exact h
    have eO : O = 0 := by
      rcases q2 with h | h
      · exact absurd h (by show ¬ hasF (partsS 28) 111#8 = true; rw [hps]; decide)
      · exact h
    have eF : F = false := by
      rcases q6 with h | h
      · exact absurd h (by show ¬ hasF (partsS 28) 102#8 = true; rw [hps]; decide)
      · exact h
    have eX : X.size = 0 := by
      rcases q7 with h | h
      · exact absurd h (by show ¬ hasF (partsS 28) 120#8 = true; rw [hps]; decide)
      · exact h
    have eA : A.length = 0 := by
      rcases q8 with h | h
      · exact absurd h (by show ¬ hasF (partsS 28) 97#8 = true; rw [hps]; decide)
      · exact h
    refine ⟨⟨fun p hp => ?_, ?_⟩, ?_⟩
    · rcases List.mem_cons.1 hp with rfl | hp
      · exact ⟨c1, c2⟩
      rcases List.mem_cons.1 hp with rfl | hp
      · exact ⟨n1, n2⟩
      rw [List.mem_singleton] at hp
      subst hp
      show (0 : Int) ≤ D.size ∧ (D.size : Int) ≤ 65535; omega
    · exact ⟨eS, eO, rfl, rfl, eF, rfl, eX, eA⟩
    · exact .inl ⟨show (28 : Int) ≠ 6 by decide, show (28 : Int) ≠ 8 by decide⟩
theorem ok_29 (S O N C : Int) (F : Bool) (D X : ByteArray) (A : List (Int × Int)) : (putF ⟨29, S, O, N, C, F, D, X, A⟩).isSome = true ↔ okD ⟨29, S, O, N, C, F, D, X, A⟩ := by
  have hp : partsL (firstF ⟨29, S, O, N, C, F, D, X, A⟩) = some [3, 4] := rfl
  have hps : partsS 29 = ⟨#[99, 100]⟩ := rfl
  rw [some_iff _ _ hp]
  constructor
  · rintro ⟨⟨hfit, hz⟩, hend⟩
    obtain ⟨z1, z2, z3, z4, z5, z6, z7, z8⟩ := hz
    have eS : S = 0 := z1
    have eO : O = 0 := z2
    have eN : N = 0 := z3
    have eF : F = false := z5
    have eX : X.size = 0 := z7
    have eA : A.length = 0 := z8
    have f3 := hfit 3 (by simp)
    have f4 := hfit 4 (by simp)
    replace f3 : 0 ≤ C ∧ C ≤ MX := f3
    replace f4 : (0 : Int) ≤ D.size ∧ (D.size : Int) ≤ 65535 := f4
    have mp := mx_pos
    have mv : MX = 4611686018427387903 := rfl
    refine ⟨by rw [hps]; decide, ⟨⟨?_, ?_⟩, ⟨?_, ?_⟩, ⟨?_, ?_⟩, ⟨?_, ?_⟩, ?_⟩, ⟨?_, ?_, ?_, ?_, ?_, ?_, ?_, ?_⟩, ?_⟩
    · show 0 ≤ S; omega
    · show S ≤ MX; omega
    · show 0 ≤ O; omega
    · show O ≤ MX; omega
    · show 0 ≤ N; omega
    · show N ≤ MX; omega
    · show 0 ≤ C; omega
    · show C ≤ MX; omega
    · show D.size ≤ 65535; omega
    · exact .inr eS
    · exact .inr eO
    · exact .inr eN
    · exact .inl (by show hasF (partsS 29) 99#8 = true; rw [hps]; decide)
    · exact .inl (by show hasF (partsS 29) 100#8 = true; rw [hps]; decide)
    · exact .inr eF
    · exact .inr eX
    · exact .inr eA
    · trivial
  · rintro ⟨_, ⟨⟨s1, s2⟩, ⟨o1, o2⟩, ⟨n1, n2⟩, ⟨c1, c2⟩, hd⟩, ⟨q1, q2, q3, q4, q5, q6, q7, q8⟩, hl⟩
    replace s1 : 0 ≤ S := s1
    replace s2 : S ≤ MX := s2
    replace o1 : 0 ≤ O := o1
    replace o2 : O ≤ MX := o2
    replace n1 : 0 ≤ N := n1
    replace n2 : N ≤ MX := n2
    replace c1 : 0 ≤ C := c1
    replace c2 : C ≤ MX := c2
    replace hd : D.size ≤ 65535 := hd
    have eS : S = 0 := by
      rcases q1 with h | h
      · exact absurd h (by show ¬ hasF (partsS 29) 115#8 = true; rw [hps]; decide)
      · exact h
    have eO : O = 0 := by
      rcases q2 with h | h
      · exact absurd h (by show ¬ hasF (partsS 29) 111#8 = true; rw [hps]; decide)
      · exact h
    have eN : N = 0 := by
      rcases q3 with h | h
      · exact absurd h (by show ¬ hasF (partsS 29) 110#8 = true; rw [hps]; decide)
      · exact h
    have eF : F = false := by
      rcases q6 with h | h
      · exact absurd h (by show ¬ hasF (partsS 29) 102#8 = true; rw [hps]; decide)
      · exact h
    have eX : X.size = 0 := by
      rcases q7 with h | h
      · exact absurd h (by show ¬ hasF (partsS 29) 120#8 = true; rw [hps]; decide)
      · exact h
    have eA : A.length = 0 := by
      rcases q8 with h | h
      · exact absurd h (by show ¬ hasF (partsS 29) 97#8 = true; rw [hps]; decide)
      · exact h
    refine ⟨⟨fun p hp => ?_, ?_⟩, ?_⟩
    · rcases List.mem_cons.1 hp with rfl | hp
      · exact ⟨c1, c2⟩
      rw [List.mem_singleton] at hp
      subst hp
      show (0 : Int) ≤ D.size ∧ (D.size : Int) ≤ 65535; omega
    · exact ⟨eS, eO, eN, rfl, eF, rfl, eX, eA⟩
    · exact .inl ⟨show (29 : Int) ≠ 6 by decide, show (29 : Int) ≠ 8 by decide⟩
theorem ok_8a (S O N C : Int) (F : Bool) (D X : ByteArray) (A : List (Int × Int)) (hO : O = 0) (hF : F = false) : (putF ⟨8, S, O, N, C, F, D, X, A⟩).isSome = true ↔ okD ⟨8, S, O, N, C, F, D, X, A⟩ := by
  have hfst : firstF ⟨8, S, O, N, C, F, D, X, A⟩ = 10 := by
    unfold firstF
    dsimp only
    rw [if_pos rfl, if_pos hO, if_neg (by rw [hF]; decide)]
  have hp : partsL (firstF ⟨8, S, O, N, C, F, D, X, A⟩) = some [0, 4] := by rw [hfst]; rfl
  have hps : partsS 8 = ⟨#[115, 111, 100, 102]⟩ := rfl
  rw [some_iff _ _ hp]
  constructor
  · rintro ⟨⟨hfit, hz⟩, hend⟩
    obtain ⟨z1, z2, z3, z4, z5, z6, z7, z8⟩ := hz
    have eO : O = 0 := z2
    have eN : N = 0 := z3
    have eC : C = 0 := z4
    have eX : X.size = 0 := z7
    have eA : A.length = 0 := z8
    have f0 := hfit 0 (by simp)
    have f4 := hfit 4 (by simp)
    replace f0 : 0 ≤ S ∧ S ≤ MX := f0
    replace f4 : (0 : Int) ≤ D.size ∧ (D.size : Int) ≤ 65535 := f4
    have hen : O ≤ MX - D.size := by
      rcases hend with h | h
      · exact absurd rfl h.2
      · exact h
    have mp := mx_pos
    have mv : MX = 4611686018427387903 := rfl
    refine ⟨by rw [hps]; decide, ⟨⟨?_, ?_⟩, ⟨?_, ?_⟩, ⟨?_, ?_⟩, ⟨?_, ?_⟩, ?_⟩, ⟨?_, ?_, ?_, ?_, ?_, ?_, ?_, ?_⟩, ?_⟩
    · show 0 ≤ S; omega
    · show S ≤ MX; omega
    · show 0 ≤ O; omega
    · show O ≤ MX; omega
    · show 0 ≤ N; omega
    · show N ≤ MX; omega
    · show 0 ≤ C; omega
    · show C ≤ MX; omega
    · show D.size ≤ 65535; omega
    · exact .inl (by show hasF (partsS 8) 115#8 = true; rw [hps]; decide)
    · exact .inl (by show hasF (partsS 8) 111#8 = true; rw [hps]; decide)
    · exact .inr eN
    · exact .inr eC
    · exact .inl (by show hasF (partsS 8) 100#8 = true; rw [hps]; decide)
    · exact .inl (by show hasF (partsS 8) 102#8 = true; rw [hps]; decide)
    · exact .inr eX
    · exact .inr eA
    · exact hen
  · rintro ⟨_, ⟨⟨s1, s2⟩, ⟨o1, o2⟩, ⟨n1, n2⟩, ⟨c1, c2⟩, hd⟩, ⟨q1, q2, q3, q4, q5, q6, q7, q8⟩, hl⟩
    replace s1 : 0 ≤ S := s1
    replace s2 : S ≤ MX := s2
    replace o1 : 0 ≤ O := o1
    replace o2 : O ≤ MX := o2
    replace n1 : 0 ≤ N := n1
    replace n2 : N ≤ MX := n2
    replace c1 : 0 ≤ C := c1
    replace c2 : C ≤ MX := c2
    replace hd : D.size ≤ 65535 := hd
    have eN : N = 0 := by
      rcases q3 with h | h
      · exact absurd h (by show ¬ hasF (partsS 8) 110#8 = true; rw [hps]; decide)
      · exact h
    have eC : C = 0 := by
      rcases q4 with h | h
      · exact absurd h (by show ¬ hasF (partsS 8) 99#8 = true; rw [hps]; decide)
      · exact h
    have eX : X.size = 0 := by
      rcases q7 with h | h
      · exact absurd h (by show ¬ hasF (partsS 8) 120#8 = true; rw [hps]; decide)
      · exact h
    have eA : A.length = 0 := by
      rcases q8 with h | h
      · exact absurd h (by show ¬ hasF (partsS 8) 97#8 = true; rw [hps]; decide)
      · exact h
    replace hl : O ≤ MX - D.size := hl
    refine ⟨⟨fun p hp => ?_, ?_⟩, ?_⟩
    · rcases List.mem_cons.1 hp with rfl | hp
      · exact ⟨s1, s2⟩
      rw [List.mem_singleton] at hp
      subst hp
      show (0 : Int) ≤ D.size ∧ (D.size : Int) ≤ 65535; omega
    · exact ⟨rfl, hO, eN, eC, rfl, rfl, eX, eA⟩
    · exact .inr hl
theorem ok_8b (S O N C : Int) (F : Bool) (D X : ByteArray) (A : List (Int × Int)) (hO : O = 0) (hF : F = true) : (putF ⟨8, S, O, N, C, F, D, X, A⟩).isSome = true ↔ okD ⟨8, S, O, N, C, F, D, X, A⟩ := by
  have hfst : firstF ⟨8, S, O, N, C, F, D, X, A⟩ = 11 := by
    unfold firstF
    dsimp only
    rw [if_pos rfl, if_pos hO, if_pos hF]
  have hp : partsL (firstF ⟨8, S, O, N, C, F, D, X, A⟩) = some [0, 4] := by rw [hfst]; rfl
  have hps : partsS 8 = ⟨#[115, 111, 100, 102]⟩ := rfl
  rw [some_iff _ _ hp]
  constructor
  · rintro ⟨⟨hfit, hz⟩, hend⟩
    obtain ⟨z1, z2, z3, z4, z5, z6, z7, z8⟩ := hz
    have eO : O = 0 := z2
    have eN : N = 0 := z3
    have eC : C = 0 := z4
    have eX : X.size = 0 := z7
    have eA : A.length = 0 := z8
    have f0 := hfit 0 (by simp)
    have f4 := hfit 4 (by simp)
    replace f0 : 0 ≤ S ∧ S ≤ MX := f0
    replace f4 : (0 : Int) ≤ D.size ∧ (D.size : Int) ≤ 65535 := f4
    have hen : O ≤ MX - D.size := by
      rcases hend with h | h
      · exact absurd rfl h.2
      · exact h
    have mp := mx_pos
    have mv : MX = 4611686018427387903 := rfl
    refine ⟨by rw [hps]; decide, ⟨⟨?_, ?_⟩, ⟨?_, ?_⟩, ⟨?_, ?_⟩, ⟨?_, ?_⟩, ?_⟩, ⟨?_, ?_, ?_, ?_, ?_, ?_, ?_, ?_⟩, ?_⟩
    · show 0 ≤ S; omega
    · show S ≤ MX; omega
    · show 0 ≤ O; omega
    · show O ≤ MX; omega
    · show 0 ≤ N; omega
    · show N ≤ MX; omega
    · show 0 ≤ C; omega
    · show C ≤ MX; omega
    · show D.size ≤ 65535; omega
    · exact .inl (by show hasF (partsS 8) 115#8 = true; rw [hps]; decide)
    · exact .inl (by show hasF (partsS 8) 111#8 = true; rw [hps]; decide)
    · exact .inr eN
    · exact .inr eC
    · exact .inl (by show hasF (partsS 8) 100#8 = true; rw [hps]; decide)
    · exact .inl (by show hasF (partsS 8) 102#8 = true; rw [hps]; decide)
    · exact .inr eX
    · exact .inr eA
    · exact hen
  · rintro ⟨_, ⟨⟨s1, s2⟩, ⟨o1, o2⟩, ⟨n1, n2⟩, ⟨c1, c2⟩, hd⟩, ⟨q1, q2, q3, q4, q5, q6, q7, q8⟩, hl⟩
    replace s1 : 0 ≤ S := s1
    replace s2 : S ≤ MX := s2
    replace o1 : 0 ≤ O := o1
    replace o2 : O ≤ MX := o2
    replace n1 : 0 ≤ N := n1
    replace n2 : N ≤ MX := n2
    replace c1 : 0 ≤ C := c1
    replace c2 : C ≤ MX := c2
    replace hd : D.size ≤ 65535 := hd
    have eN : N = 0 := by
      rcases q3 with h | h
      · exact absurd h (by show ¬ hasF (partsS 8) 110#8 = true; rw [hps]; decide)
      · exact h
    have eC : C = 0 := by
      rcases q4 with h | h
      · exact absurd h (by show ¬ hasF (partsS 8) 99#8 = true; rw [hps]; decide)
      · exact h
    have eX : X.size = 0 := by
      rcases q7 with h | h
      · exact absurd h (by show ¬ hasF (partsS 8) 120#8 = true; rw [hps]; decide)
      · exact h
    have eA : A.length = 0 := by
      rcases q8 with h | h
      · exact absurd h (by show ¬ hasF (partsS 8) 97#8 = true; rw [hps]; decide)
      · exact h
    replace hl : O ≤ MX - D.size := hl
    refine ⟨⟨fun p hp => ?_, ?_⟩, ?_⟩
    · rcases List.mem_cons.1 hp with rfl | hp
      · exact ⟨s1, s2⟩
      rw [List.mem_singleton] at hp
      subst hp
      show (0 : Int) ≤ D.size ∧ (D.size : Int) ≤ 65535; omega
    · exact ⟨rfl, hO, eN, eC, rfl, rfl, eX, eA⟩
    · exact .inr hl
theorem ok_8c (S O N C : Int) (F : Bool) (D X : ByteArray) (A : List (Int × Int)) (hO : ¬ O = 0) (hF : F = false) : (putF ⟨8, S, O, N, C, F, D, X, A⟩).isSome = true ↔ okD ⟨8, S, O, N, C, F, D, X, A⟩ := by
  have hfst : firstF ⟨8, S, O, N, C, F, D, X, A⟩ = 14 := by
    unfold firstF
    dsimp only
    rw [if_pos rfl, if_neg hO, if_neg (by rw [hF]; decide)]
  have hp : partsL (firstF ⟨8, S, O, N, C, F, D, X, A⟩) = some [0, 1, 4] := by rw [hfst]; rfl
  have hps : partsS 8 = ⟨#[115, 111, 100, 102]⟩ := rfl
  rw [some_iff _ _ hp]
  constructor
  · rintro ⟨⟨hfit, hz⟩, hend⟩
    obtain ⟨z1, z2, z3, z4, z5, z6, z7, z8⟩ := hz
    have eN : N = 0 := z3
    have eC : C = 0 := z4
    have eX : X.size = 0 := z7
    have eA : A.length = 0 := z8
    have f0 := hfit 0 (by simp)
    have f1 := hfit 1 (by simp)
    have f4 := hfit 4 (by simp)
    replace f0 : 0 ≤ S ∧ S ≤ MX := f0
    replace f1 : 0 ≤ O ∧ O ≤ MX := f1
    replace f4 : (0 : Int) ≤ D.size ∧ (D.size : Int) ≤ 65535 := f4
    have hen : O ≤ MX - D.size := by
      rcases hend with h | h
      · exact absurd rfl h.2
      · exact h
    have mp := mx_pos
    have mv : MX = 4611686018427387903 := rfl
    refine ⟨by rw [hps]; decide, ⟨⟨?_, ?_⟩, ⟨?_, ?_⟩, ⟨?_, ?_⟩, ⟨?_, ?_⟩, ?_⟩, ⟨?_, ?_, ?_, ?_, ?_, ?_, ?_, ?_⟩, ?_⟩
    · show 0 ≤ S; omega
    · show S ≤ MX; omega
    · show 0 ≤ O; omega
    · show O ≤ MX; omega
    · show 0 ≤ N; omega
    · show N ≤ MX; omega
    · show 0 ≤ C; omega
    · show C ≤ MX; omega
    · show D.size ≤ 65535; omega
    · exact .inl (by show hasF (partsS 8) 115#8 = true; rw [hps]; decide)
    · exact .inl (by show hasF (partsS 8) 111#8 = true; rw [hps]; decide)
    · exact .inr eN
    · exact .inr eC
    · exact .inl (by show hasF (partsS 8) 100#8 = true; rw [hps]; decide)
    · exact .inl (by show hasF (partsS 8) 102#8 = true; rw [hps]; decide)
    · exact .inr eX
    · exact .inr eA
    · exact hen
  · rintro ⟨_, ⟨⟨s1, s2⟩, ⟨o1, o2⟩, ⟨n1, n2⟩, ⟨c1, c2⟩, hd⟩, ⟨q1, q2, q3, q4, q5, q6, q7, q8⟩, hl⟩
    replace s1 : 0 ≤ S := s1
    replace s2 : S ≤ MX := s2
    replace o1 : 0 ≤ O := o1
    replace o2 : O ≤ MX := o2
    replace n1 : 0 ≤ N := n1
    replace n2 : N ≤ MX := n2
    replace c1 : 0 ≤ C := c1
    replace c2 : C ≤ MX := c2
    replace hd : D.size ≤ 65535 := hd
    have eN : N = 0 := by
      rcases q3 with h | h
      · exact absurd h (by show ¬ hasF (partsS 8) 110#8 = true; rw [hps]; decide)
      · exact h
    have eC : C = 0 := by
      rcases q4 with h | h
      · exact absurd h (by show ¬ hasF (partsS 8) 99#8 = true; rw [hps]; decide)
      · exact h
    have eX : X.size = 0 := by
      rcases q7 with h | h
      · exact absurd h (by show ¬ hasF (partsS 8) 120#8 = true; rw [hps]; decide)
      · exact h
    have eA : A.length = 0 := by
      rcases q8 with h | h
      · exact absurd h (by show ¬ hasF (partsS 8) 97#8 = true; rw [hps]; decide)
      · exact h
    replace hl : O ≤ MX - D.size := hl
    refine ⟨⟨fun p hp => ?_, ?_⟩, ?_⟩
    · rcases List.mem_cons.1 hp with rfl | hp
      · exact ⟨s1, s2⟩
      rcases List.mem_cons.1 hp with rfl | hp
      · exact ⟨o1, o2⟩
      rw [List.mem_singleton] at hp
      subst hp
      show (0 : Int) ≤ D.size ∧ (D.size : Int) ≤ 65535; omega
    · exact ⟨rfl, rfl, eN, eC, rfl, rfl, eX, eA⟩
    · exact .inr hl
theorem ok_8d (S O N C : Int) (F : Bool) (D X : ByteArray) (A : List (Int × Int)) (hO : ¬ O = 0) (hF : F = true) : (putF ⟨8, S, O, N, C, F, D, X, A⟩).isSome = true ↔ okD ⟨8, S, O, N, C, F, D, X, A⟩ := by
  have hfst : firstF ⟨8, S, O, N, C, F, D, X, A⟩ = 15 := by
    unfold firstF
    dsimp only
    rw [if_pos rfl, if_neg hO, if_pos hF]
  have hp : partsL (firstF ⟨8, S, O, N, C, F, D, X, A⟩) = some [0, 1, 4] := by rw [hfst]; rfl
  have hps : partsS 8 = ⟨#[115, 111, 100, 102]⟩ := rfl
  rw [some_iff _ _ hp]
  constructor
  · rintro ⟨⟨hfit, hz⟩, hend⟩
    obtain ⟨z1, z2, z3, z4, z5, z6, z7, z8⟩ := hz
    have eN : N = 0 := z3
    have eC : C = 0 := z4
    have eX : X.size = 0 := z7
    have eA : A.length = 0 := z8
    have f0 := hfit 0 (by simp)
    have f1 := hfit 1 (by simp)
    have f4 := hfit 4 (by simp)
    replace f0 : 0 ≤ S ∧ S ≤ MX := f0
    replace f1 : 0 ≤ O ∧ O ≤ MX := f1
    replace f4 : (0 : Int) ≤ D.size ∧ (D.size : Int) ≤ 65535 := f4
    have hen : O ≤ MX - D.size := by
      rcases hend with h | h
      · exact absurd rfl h.2
      · exact h
    have mp := mx_pos
    have mv : MX = 4611686018427387903 := rfl
    refine ⟨by rw [hps]; decide, ⟨⟨?_, ?_⟩, ⟨?_, ?_⟩, ⟨?_, ?_⟩, ⟨?_, ?_⟩, ?_⟩, ⟨?_, ?_, ?_, ?_, ?_, ?_, ?_, ?_⟩, ?_⟩
    · show 0 ≤ S; omega
    · show S ≤ MX; omega
    · show 0 ≤ O; omega
    · show O ≤ MX; omega
    · show 0 ≤ N; omega
    · show N ≤ MX; omega
    · show 0 ≤ C; omega
    · show C ≤ MX; omega
    · show D.size ≤ 65535; omega
    · exact .inl (by show hasF (partsS 8) 115#8 = true; rw [hps]; decide)
    · exact .inl (by show hasF (partsS 8) 111#8 = true; rw [hps]; decide)
    · exact .inr eN
    · exact .inr eC
    · exact .inl (by show hasF (partsS 8) 100#8 = true; rw [hps]; decide)
    · exact .inl (by show hasF (partsS 8) 102#8 = true; rw [hps]; decide)
    · exact .inr eX
    · exact .inr eA
    · exact hen
  · rintro ⟨_, ⟨⟨s1, s2⟩, ⟨o1, o2⟩, ⟨n1, n2⟩, ⟨c1, c2⟩, hd⟩, ⟨q1, q2, q3, q4, q5, q6, q7, q8⟩, hl⟩
    replace s1 : 0 ≤ S := s1
    replace s2 : S ≤ MX := s2
    replace o1 : 0 ≤ O := o1
    replace o2 : O ≤ MX := o2
    replace n1 : 0 ≤ N := n1
    replace n2 : N ≤ MX := n2
    replace c1 : 0 ≤ C := c1
    replace c2 : C ≤ MX := c2
    replace hd : D.size ≤ 65535 := hd
    have eN : N = 0 := by
      rcases q3 with h | h
      · exact absurd h (by show ¬ hasF (partsS 8) 110#8 = true; rw [hps]; decide)
      · exact h
    have eC : C = 0 := by
      rcases q4 with h | h
      · exact absurd h (by show ¬ hasF (partsS 8) 99#8 = true; rw [hps]; decide)
      · exact h
    have eX : X.size = 0 := by
      rcases q7 with h | h
      · exact absurd h (by show ¬ hasF (partsS 8) 120#8 = true; rw [hps]; decide)
      · exact h
    have eA : A.length = 0 := by
      rcases q8 with h | h
      · exact absurd h (by show ¬ hasF (partsS 8) 97#8 = true; rw [hps]; decide)
      · exact h
    replace hl : O ≤ MX - D.size := hl
    refine ⟨⟨fun p hp => ?_, ?_⟩, ?_⟩
    · rcases List.mem_cons.1 hp with rfl | hp
      · exact ⟨s1, s2⟩
      rcases List.mem_cons.1 hp with rfl | hp
      · exact ⟨o1, o2⟩
      rw [List.mem_singleton] at hp
      subst hp
      show (0 : Int) ≤ D.size ∧ (D.size : Int) ≤ 65535; omega
    · exact ⟨rfl, rfl, eN, eC, rfl, rfl, eX, eA⟩
    · exact .inr hl
theorem ok_iff (f : Fr) : (putF f).isSome = true ↔ okD f := by
  obtain ⟨K, S, O, N, C, F, D, X, A⟩ := f
  by_cases h8 : K = 8
  · subst h8
    by_cases hO : O = 0
    · cases F
      · exact ok_8a S O N C _ D X A hO rfl
      · exact ok_8b S O N C _ D X A hO rfl
    · cases F
      · exact ok_8c S O N C _ D X A hO rfl
      · exact ok_8d S O N C _ D X A hO rfl
  by_cases h0 : K = 0
  · subst h0; exact ok_0 S O N C F D X A
  by_cases h1 : K = 1
  · subst h1; exact ok_1 S O N C F D X A
  by_cases h30 : K = 30
  · subst h30; exact ok_30 S O N C F D X A
  by_cases h2 : K = 2
  · subst h2; exact ok_2 S O N C F D X A
  by_cases h4 : K = 4
  · subst h4; exact ok_4 S O N C F D X A
  by_cases h5 : K = 5
  · subst h5; exact ok_5 S O N C F D X A
  by_cases h6 : K = 6
  · subst h6; exact ok_6 S O N C F D X A
  by_cases h7 : K = 7
  · subst h7; exact ok_7 S O N C F D X A
  by_cases h16 : K = 16
  · subst h16; exact ok_16 S O N C F D X A
  by_cases h20 : K = 20
  · subst h20; exact ok_20 S O N C F D X A
  by_cases h25 : K = 25
  · subst h25; exact ok_25 S O N C F D X A
  by_cases h18 : K = 18
  · subst h18; exact ok_18 S O N C F D X A
  by_cases h22 : K = 22
  · subst h22; exact ok_22 S O N C F D X A
  by_cases h17 : K = 17
  · subst h17; exact ok_17 S O N C F D X A
  by_cases h21 : K = 21
  · subst h21; exact ok_21 S O N C F D X A
  by_cases h24 : K = 24
  · subst h24; exact ok_24 S O N C F D X A
  by_cases h26 : K = 26
  · subst h26; exact ok_26 S O N C F D X A
  by_cases h27 : K = 27
  · subst h27; exact ok_27 S O N C F D X A
  by_cases h28 : K = 28
  · subst h28; exact ok_28 S O N C F D X A
  by_cases h29 : K = 29
  · subst h29; exact ok_29 S O N C F D X A
  have hno : partsS K = ⟨#[]⟩ := by
    unfold partsS
    rw [if_neg h0, if_neg h1, if_neg h30, if_neg h2, if_neg h4, if_neg h5, if_neg h6, if_neg h7, if_neg h8, if_neg h16, if_neg h20, if_neg h25, if_neg h18, if_neg h22, if_neg h17, if_neg h21, if_neg h24, if_neg h26, if_neg h27, if_neg h28, if_neg h29]
  constructor
  · intro h
    exfalso
    obtain ⟨S2, hS⟩ := Option.isSome_iff_exists.1 h
    obtain ⟨ps, hp, _, _, _, sh⟩ := put_shape _ _ hS
    have hk := sh.kind
    have hf := sh.first
    by_cases h15 : 8 ≤ K ∧ K ≤ 15
    · have e : firstF ⟨K, S, O, N, C, F, D, X, A⟩ = -1 := by unfold firstF; dsimp only; rw [if_neg h8, if_pos h15]
      rw [e] at hf; omega
    · have e : firstF ⟨K, S, O, N, C, F, D, X, A⟩ = K := by unfold firstF; dsimp only; rw [if_neg h8, if_neg h15]
      rw [e] at hp
      unfold partsL at hp
      rw [if_neg h0, if_neg h1, if_neg h30, if_neg h2, if_neg h4, if_neg h5, if_neg h6, if_neg h7, if_neg h16, if_neg h20, if_neg h25, if_neg h18, if_neg h22, if_neg h17, if_neg h21, if_neg h24, if_neg h26, if_neg h27, if_neg h28, if_neg h29, if_neg h15] at hp
      cases hp
  · rintro ⟨h, _⟩
    exact absurd (by show (partsS K).size = 0; rw [hno]; rfl) h
end Go.Proofs.YtcgbhcmgddgheabDoor
