/-
  THE DOCUMENT'S ANSWER FOR vlq, FIRST PART: Most, PutIn, Put.
-/
import Derived.Test.YtcgbhcmgddgheabDoorVlqB
namespace Go.Proofs.YtcgbhcmgddgheabDoor
open Go Go.RowKit Go.BigFrame
set_option maxHeartbeats 1000000 in
theorem most_any (k : Nat) (hk : k < 4) (w : World) :
    Calls Tryd.prog 50 #[.int .i64 ((2 ^ k : Nat) : Int)] w fun e w' => e = .returned (.int .u64 ((2 ^ (8 * 2 ^ k - 2) : Nat) : Int)) ∧ w = w' := by
  obtain rfl | rfl | rfl | rfl : k = 0 ∨ k = 1 ∨ k = 2 ∨ k = 3 := by omega
  all_goals
    simp only [Nat.reducePow]
    go_enter Tryd.func50, Tryd.ntmps50
    go_wp2_with fail
    go_ret
    exact ⟨rfl, rfl⟩
set_option maxHeartbeats 1000000 in
theorem most_none (size : Int) (h1 : size ≠ 1) (h2 : size ≠ 2) (h4 : size ≠ 4) (h8 : size ≠ 8) (w : World) :
    Calls Tryd.prog 50 #[.int .i64 size] w fun e w' => e = .returned (.int .u64 0) ∧ w = w' := by
  have g1 : (size == 1) = false := beq_eq_false_iff_ne.2 h1
  have g2 : (size == 2) = false := beq_eq_false_iff_ne.2 h2
  have g4 : (size == 4) = false := beq_eq_false_iff_ne.2 h4
  have g8 : (size == 8) = false := beq_eq_false_iff_ne.2 h8
  clear h1 h2 h4 h8
  go_enter Tryd.func50, Tryd.ntmps50
  go_wp2_with fail
  go_ret
  exact ⟨rfl, rfl⟩
def RefOk (x : BitVec 64) (k : Nat) (w : World) (e : Ending) (w' : World) : Prop := e = .returned (.tuple #[.string (strOf (vbyte x k) (2 ^ k)), .int .i64 0]) ∧ Below w.heap.size w w'
def RefNo (c : Int) (w : World) (e : Ending) (w' : World) : Prop := e = .returned (.tuple #[.string ⟨#[]⟩, .int .i64 c]) ∧ w = w'
set_option maxHeartbeats 1000000 in
theorem refIn_arg (x : BitVec 64) (size : Int) (h1 : size ≠ 1) (h2 : size ≠ 2) (h4 : size ≠ 4) (h8 : size ≠ 8) (w : World) :
    Calls Tryd.prog 46 #[.int .u64 (n64 x), .int .i64 size] w (RefNo 1 w) := by
  go_enter Tryd.func46, Tryd.ntmps46
  go_wp2_with fail
  refine (most_none size h1 h2 h4 h8 w).mono ?_
  rintro e w' ⟨rfl, rfl⟩
  go_wp2_with fail
  go_ret2
  exact ⟨rfl, rfl⟩
set_option maxHeartbeats 1000000 in
theorem refIn_big (x : BitVec 64) (k : Nat) (hk : k < 4) (hx : ¬ x.toNat < 2 ^ (8 * 2 ^ k - 2)) (w : World) :
    Calls Tryd.prog 46 #[.int .u64 (n64 x), .int .i64 ((2 ^ k : Nat) : Int)] w (RefNo 5 w) := by
  have hm := most_any k hk w
  have Hm := Lib.hid hm
  clear hm
  have hx' : ((2 ^ (8 * 2 ^ k - 2) : Nat) : Int) ≤ n64 x := by rw [n64_nat]; omega
  have h0 : (((2 ^ (8 * 2 ^ k - 2) : Nat) : Int) == 0) = false := beq_eq_false_iff_ne.2 (by have := Nat.two_pow_pos (8 * 2 ^ k - 2); omega)
  generalize ((2 ^ (8 * 2 ^ k - 2) : Nat) : Int) = top at *
  clear hx
  go_enter Tryd.func46, Tryd.ntmps46
  go_wp2_with fail
  refine Hm.out.mono ?_
  rintro e w' ⟨rfl, rfl⟩
  go_wp2_with fail
  refine Hm.out.mono ?_
  rintro e w' ⟨rfl, rfl⟩
  go_wp2_with fail
  go_ret2
  exact ⟨rfl, rfl⟩
theorem rem256 (t : TypeId) (x : BitVec 64) : binOp .rem t (.int .u64 (n64 x)) (.int .u64 256) = pure (.int .u64 (n64 (x &&& 255#64))) := by
  have h : (n64 x).tmod 256 = n64 (x &&& 255#64) := by
    rw [n64_nat, n64_nat, Int.tmod_eq_emod_of_nonneg (by omega), BitVec.toNat_and, show (255#64).toNat = 2 ^ 8 - 1 from rfl, Nat.and_two_pow_sub_one_eq_mod]
    omega
  simp [binOp_rem, Op.intDiv, h]
theorem quo256 (t : TypeId) (x : BitVec 64) : binOp .quo t (.int .u64 (n64 x)) (.int .u64 256) = pure (.int .u64 (n64 (x >>> 8))) := by
  have h : (n64 x).tdiv 256 = n64 (x >>> 8) := by
    rw [n64_nat, n64_nat, Int.tdiv_eq_ediv_of_nonneg (by omega), BitVec.toNat_ushiftRight, Nat.shiftRight_eq_div_pow]
    omega
  simp [binOp_quo, Op.intDiv, h, wrap_n64, ofInt_n64]
attribute [go_sem high] rem256 quo256
theorem low8 (x : BitVec 64) : n64 (x &&& 255#64) % 256 = n8 (x.setWidth 8) := by
  rw [n64_nat, n8_nat, BitVec.toNat_setWidth, BitVec.toNat_and, show (255#64).toNat = 2 ^ 8 - 1 from rfl, Nat.and_two_pow_sub_one_eq_mod]
  omega
theorem byte_down {x : BitVec 64} {n j : Nat} {f : Nat → BitVec 8} {y : BitVec 8} (hf : ∀ i, j < i → i < n → f i = (x >>> (8 * (n - 1 - i))).setWidth 8) (hy : y = (x >>> (8 * (n - 1 - j))).setWidth 8) :
    ∀ i, j ≤ i → i < n → updb f j y i = (x >>> (8 * (n - 1 - i))).setWidth 8 := by
  intro i hi hn
  unfold updb
  by_cases h : i = j
  · rw [if_pos h, hy, h]
  · rw [if_neg h]; exact hf i (by omega) hn
theorem and255 (z : BitVec 8) : z &&& 255#8 = z := BitVec.and_allOnes
theorem low8b (y : BitVec 8) (c : Nat) : IntKind.u8.wrap (n8 y + (c : Int)) = n8 (y + BitVec.ofNat 8 c) := by
  rw [wrap_n8, BitVec.ofInt_add, ofInt_n8, ofInt_lit8]
theorem conv_bytes {w w0 : World} {r n : Nat} {f : Nat → BitVec 8} (h : MyRow w0 r n 5 f w) (c : Nat) : (convert 28 9 (.slice (some ⟨r, 0, none⟩) n c)).run Tryd.prog w = .ok (.string (strOf f n)) w :=
  conv_str f r 0 n c w (fun i hi => by rw [Nat.zero_add]; exact h.at i hi)

set_option maxRecDepth 100000 in
set_option maxHeartbeats 4000000 in
theorem refIn_0 (x : BitVec 64) (hx : x.toNat < 2 ^ 6) (w : World) :
    Calls Tryd.prog 46 #[.int .u64 (n64 x), .int .i64 1] w (RefOk x 0 w) := by
  have hm := most_any 0 (by decide)
  have mk := run_make_bytes 1 (by decide)
  simp only [Nat.reducePow, Nat.reduceMul, Nat.reduceSub, Int.cast_ofNat_Int] at hm mk hx
  have Hm := Lib.hid hm
  clear hm
  have HX := Lib.hid hx
  have hx' : n64 x < 64 := by rw [n64_nat]; omega
  clear hx
  go_enter Tryd.func46, Tryd.ntmps46
  go_wp2_with fail
  refine (Hm.out _).mono ?_
  rintro e w' ⟨rfl, rfl⟩
  go_wp2_with fail
  refine (Hm.out _).mono ?_
  rintro e w' ⟨rfl, rfl⟩
  go_wp2_with fail
  have st := MyRow.made (Below.refl w.heap.size w) (fun _ => 0#8) 1 5
  generalize w.heap.size = r at *
  generalize w.alloc _ = wa at *
  clear mk hx'
  go_loopw [0, 7] (fun s0 s7 wr => ∃ (j : Nat) (f : Nat → BitVec 8), j ≤ 1 ∧ s7 = .int .i64 ((j : Int) - 1) ∧ s0 = .int .u64 (n64 (x >>> (8 * (1 - j)))) ∧ (∀ i, j ≤ i → i < 1 → f i = (x >>> (8 * (1 - 1 - i))).setWidth 8) ∧ MyRow w r 1 5 f wr)
    (fun _ s7 _ => (intOf s7 + 1).toNat)
  case atStart => exact ⟨1, _, by omega, rfl, by simp, fun i hi hn => by omega, st⟩
  case round =>
    clear st
    obtain ⟨j, f, hj, rfl, rfl, hf, st⟩ := hrel
    have F := Lib.hid hf
    clear hf
    by_cases hlt : 0 < j
    · obtain ⟨i, rfl⟩ : ∃ i, j = i + 1 := ⟨j - 1, by omega⟩
      have ei : (((i + 1 : Nat) : Int) - 1) = (i : Int) := by omega
      rw [ei]
      have c0 := st.at i (by omega)
      have f0 := st.free i
      clear ei
      go_wp2_with fail
      go_roundw
      case rel =>
        obtain rfl : i = 0 := by omega
        refine ⟨0, _, by omega, rfl, rfl, byte_down (fun i hi hn => F.out i (by omega) hn) rfl, ?_⟩
        rw [and255]
        exact st.set 0 _
      case measure => simp [intOf] <;> omega
    · obtain rfl : j = 0 := by omega
      have c0 := st.at 0 (by omega)
      have f0 := st.free 0
      go_wp2_with fail
      have cv := conv_bytes (st.set 0 (f 0)) 1
      have bel := (st.set 0 (f 0)).below
      clear st
      refine wp_loop_rounds 2 ?_
      repeat (rw [rounds_succ]; go_wp2_with fail)
      go_ret2
      refine ⟨?_, bel⟩
      have : strOf (updb f 0 (f 0)) 1 = strOf (vbyte x 0) 1 := by
        rw [strOf_eq]
        intro i hi
        rw [vbyte_rbyte x 0 i (by decide) hi HX.out]
        unfold updb rbyte
        by_cases h0 : i = 0
        · rw [if_pos h0, if_pos h0, F.out 0 (by omega) (by omega)]
          all_goals (first | rfl | simp)
        · rw [if_neg h0, if_neg h0, F.out i (by omega) hi]
      rw [this]
      rfl

set_option maxRecDepth 100000 in
set_option maxHeartbeats 4000000 in
theorem refIn_1 (x : BitVec 64) (hx : x.toNat < 2 ^ 14) (w : World) :
    Calls Tryd.prog 46 #[.int .u64 (n64 x), .int .i64 2] w (RefOk x 1 w) := by
  have hm := most_any 1 (by decide)
  have mk := run_make_bytes 2 (by decide)
  simp only [Nat.reducePow, Nat.reduceMul, Nat.reduceSub, Int.cast_ofNat_Int] at hm mk hx
  have Hm := Lib.hid hm
  clear hm
  have HX := Lib.hid hx
  have hx' : n64 x < 16384 := by rw [n64_nat]; omega
  clear hx
  go_enter Tryd.func46, Tryd.ntmps46
  go_wp2_with fail
  refine (Hm.out _).mono ?_
  rintro e w' ⟨rfl, rfl⟩
  go_wp2_with fail
  refine (Hm.out _).mono ?_
  rintro e w' ⟨rfl, rfl⟩
  go_wp2_with fail
  have st := MyRow.made (Below.refl w.heap.size w) (fun _ => 0#8) 2 5
  generalize w.heap.size = r at *
  generalize w.alloc _ = wa at *
  clear mk hx'
  go_loopw [0, 7] (fun s0 s7 wr => ∃ (j : Nat) (f : Nat → BitVec 8), j ≤ 2 ∧ s7 = .int .i64 ((j : Int) - 1) ∧ s0 = .int .u64 (n64 (x >>> (8 * (2 - j)))) ∧ (∀ i, j ≤ i → i < 2 → f i = (x >>> (8 * (2 - 1 - i))).setWidth 8) ∧ MyRow w r 2 5 f wr)
    (fun _ s7 _ => (intOf s7 + 1).toNat)
  case atStart => exact ⟨2, _, by omega, rfl, by simp, fun i hi hn => by omega, st⟩
  case round =>
    clear st
    obtain ⟨j, f, hj, rfl, rfl, hf, st⟩ := hrel
    have F := Lib.hid hf
    clear hf
    by_cases hlt : 0 < j
    · obtain ⟨i, rfl⟩ : ∃ i, j = i + 1 := ⟨j - 1, by omega⟩
      have ei : (((i + 1 : Nat) : Int) - 1) = (i : Int) := by omega
      rw [ei]
      have c0 := st.at i (by omega)
      have f0 := st.free i
      clear ei
      go_wp2_with fail
      go_roundw
      case rel =>
        refine ⟨i, _, by omega, rfl, by rw [← BitVec.shiftRight_add, show 8 * (2 - 1 - i) + 8 = 8 * (2 - i) by omega], byte_down (fun i hi hn => F.out i (by omega) hn) rfl, ?_⟩
        rw [and255]
        exact st.set i _
      case measure => simp [intOf] <;> omega
    · obtain rfl : j = 0 := by omega
      have c0 := st.at 0 (by omega)
      have f0 := st.free 0
      go_wp2_with fail
      have cv := conv_bytes (st.set 0 (f 0 + 64#8)) 2
      have bel := (st.set 0 (f 0 + 64#8)).below
      clear st
      refine wp_loop_rounds 3 ?_
      repeat (rw [rounds_succ]; go_wp2_with fail)
      go_ret2
      refine ⟨?_, bel⟩
      have : strOf (updb f 0 (f 0 + 64#8)) 2 = strOf (vbyte x 1) 2 := by
        rw [strOf_eq]
        intro i hi
        rw [vbyte_rbyte x 1 i (by decide) hi HX.out]
        unfold updb rbyte
        by_cases h0 : i = 0
        · rw [if_pos h0, if_pos h0, F.out 0 (by omega) (by omega)]
          all_goals (first | rfl | simp)
        · rw [if_neg h0, if_neg h0, F.out i (by omega) hi]
      rw [this]
      rfl

set_option maxRecDepth 100000 in
set_option maxHeartbeats 4000000 in
theorem refIn_2 (x : BitVec 64) (hx : x.toNat < 2 ^ 30) (w : World) :
    Calls Tryd.prog 46 #[.int .u64 (n64 x), .int .i64 4] w (RefOk x 2 w) := by
  have hm := most_any 2 (by decide)
  have mk := run_make_bytes 4 (by decide)
  simp only [Nat.reducePow, Nat.reduceMul, Nat.reduceSub, Int.cast_ofNat_Int] at hm mk hx
  have Hm := Lib.hid hm
  clear hm
  have HX := Lib.hid hx
  have hx' : n64 x < 1073741824 := by rw [n64_nat]; omega
  clear hx
  go_enter Tryd.func46, Tryd.ntmps46
  go_wp2_with fail
  refine (Hm.out _).mono ?_
  rintro e w' ⟨rfl, rfl⟩
  go_wp2_with fail
  refine (Hm.out _).mono ?_
  rintro e w' ⟨rfl, rfl⟩
  go_wp2_with fail
  have st := MyRow.made (Below.refl w.heap.size w) (fun _ => 0#8) 4 5
  generalize w.heap.size = r at *
  generalize w.alloc _ = wa at *
  clear mk hx'
  go_loopw [0, 7] (fun s0 s7 wr => ∃ (j : Nat) (f : Nat → BitVec 8), j ≤ 4 ∧ s7 = .int .i64 ((j : Int) - 1) ∧ s0 = .int .u64 (n64 (x >>> (8 * (4 - j)))) ∧ (∀ i, j ≤ i → i < 4 → f i = (x >>> (8 * (4 - 1 - i))).setWidth 8) ∧ MyRow w r 4 5 f wr)
    (fun _ s7 _ => (intOf s7 + 1).toNat)
  case atStart => exact ⟨4, _, by omega, rfl, by simp, fun i hi hn => by omega, st⟩
  case round =>
    clear st
    obtain ⟨j, f, hj, rfl, rfl, hf, st⟩ := hrel
    have F := Lib.hid hf
    clear hf
    by_cases hlt : 0 < j
    · obtain ⟨i, rfl⟩ : ∃ i, j = i + 1 := ⟨j - 1, by omega⟩
      have ei : (((i + 1 : Nat) : Int) - 1) = (i : Int) := by omega
      rw [ei]
      have c0 := st.at i (by omega)
      have f0 := st.free i
      clear ei
      go_wp2_with fail
      go_roundw
      case rel =>
        refine ⟨i, _, by omega, rfl, by rw [← BitVec.shiftRight_add, show 8 * (4 - 1 - i) + 8 = 8 * (4 - i) by omega], byte_down (fun i hi hn => F.out i (by omega) hn) rfl, ?_⟩
        rw [and255]
        exact st.set i _
      case measure => simp [intOf] <;> omega
    · obtain rfl : j = 0 := by omega
      have c0 := st.at 0 (by omega)
      have f0 := st.free 0
      go_wp2_with fail
      have cv := conv_bytes (st.set 0 (f 0 + 128#8)) 4
      have bel := (st.set 0 (f 0 + 128#8)).below
      clear st
      refine wp_loop_rounds 4 ?_
      repeat (rw [rounds_succ]; go_wp2_with fail)
      go_ret2
      refine ⟨?_, bel⟩
      have : strOf (updb f 0 (f 0 + 128#8)) 4 = strOf (vbyte x 2) 4 := by
        rw [strOf_eq]
        intro i hi
        rw [vbyte_rbyte x 2 i (by decide) hi HX.out]
        unfold updb rbyte
        by_cases h0 : i = 0
        · rw [if_pos h0, if_pos h0, F.out 0 (by omega) (by omega)]
          all_goals (first | rfl | simp)
        · rw [if_neg h0, if_neg h0, F.out i (by omega) hi]
      rw [this]
      rfl

set_option maxRecDepth 100000 in
set_option maxHeartbeats 4000000 in
theorem refIn_3 (x : BitVec 64) (hx : x.toNat < 2 ^ 62) (w : World) :
    Calls Tryd.prog 46 #[.int .u64 (n64 x), .int .i64 8] w (RefOk x 3 w) := by
  have hm := most_any 3 (by decide)
  have mk := run_make_bytes 8 (by decide)
  simp only [Nat.reducePow, Nat.reduceMul, Nat.reduceSub, Int.cast_ofNat_Int] at hm mk hx
  have Hm := Lib.hid hm
  clear hm
  have HX := Lib.hid hx
  have hx' : n64 x < 4611686018427387904 := by rw [n64_nat]; omega
  clear hx
  go_enter Tryd.func46, Tryd.ntmps46
  go_wp2_with fail
  refine (Hm.out _).mono ?_
  rintro e w' ⟨rfl, rfl⟩
  go_wp2_with fail
  refine (Hm.out _).mono ?_
  rintro e w' ⟨rfl, rfl⟩
  go_wp2_with fail
  have st := MyRow.made (Below.refl w.heap.size w) (fun _ => 0#8) 8 5
  generalize w.heap.size = r at *
  generalize w.alloc _ = wa at *
  clear mk hx'
  go_loopw [0, 7] (fun s0 s7 wr => ∃ (j : Nat) (f : Nat → BitVec 8), j ≤ 8 ∧ s7 = .int .i64 ((j : Int) - 1) ∧ s0 = .int .u64 (n64 (x >>> (8 * (8 - j)))) ∧ (∀ i, j ≤ i → i < 8 → f i = (x >>> (8 * (8 - 1 - i))).setWidth 8) ∧ MyRow w r 8 5 f wr)
    (fun _ s7 _ => (intOf s7 + 1).toNat)
  case atStart => exact ⟨8, _, by omega, rfl, by simp, fun i hi hn => by omega, st⟩
  case round =>
    clear st
    obtain ⟨j, f, hj, rfl, rfl, hf, st⟩ := hrel
    have F := Lib.hid hf
    clear hf
    by_cases hlt : 0 < j
    · obtain ⟨i, rfl⟩ : ∃ i, j = i + 1 := ⟨j - 1, by omega⟩
      have ei : (((i + 1 : Nat) : Int) - 1) = (i : Int) := by omega
      rw [ei]
      have c0 := st.at i (by omega)
      have f0 := st.free i
      clear ei
      go_wp2_with fail
      go_roundw
      case rel =>
        refine ⟨i, _, by omega, rfl, by rw [← BitVec.shiftRight_add, show 8 * (8 - 1 - i) + 8 = 8 * (8 - i) by omega], byte_down (fun i hi hn => F.out i (by omega) hn) rfl, ?_⟩
        rw [and255]
        exact st.set i _
      case measure => simp [intOf] <;> omega
    · obtain rfl : j = 0 := by omega
      have c0 := st.at 0 (by omega)
      have f0 := st.free 0
      go_wp2_with fail
      have cv := conv_bytes (st.set 0 (f 0 + 192#8)) 8
      have bel := (st.set 0 (f 0 + 192#8)).below
      clear st
      refine wp_loop_rounds 5 ?_
      repeat (rw [rounds_succ]; go_wp2_with fail)
      go_ret2
      refine ⟨?_, bel⟩
      have : strOf (updb f 0 (f 0 + 192#8)) 8 = strOf (vbyte x 3) 8 := by
        rw [strOf_eq]
        intro i hi
        rw [vbyte_rbyte x 3 i (by decide) hi HX.out]
        unfold updb rbyte
        by_cases h0 : i = 0
        · rw [if_pos h0, if_pos h0, F.out 0 (by omega) (by omega)]
          all_goals (first | rfl | simp)
        · rw [if_neg h0, if_neg h0, F.out i (by omega) hi]
      rw [this]
      rfl

theorem refIn_ok (x : BitVec 64) (k : Nat) (hk : k < 4) (hx : x.toNat < 2 ^ (8 * 2 ^ k - 2)) (w : World) :
    Calls Tryd.prog 46 #[.int .u64 (n64 x), .int .i64 ((2 ^ k : Nat) : Int)] w (RefOk x k w) := by
  obtain rfl | rfl | rfl | rfl : k = 0 ∨ k = 1 ∨ k = 2 ∨ k = 3 := by omega
  · exact refIn_0 x hx w
  · exact refIn_1 x hx w
  · exact refIn_2 x hx w
  · exact refIn_3 x hx w
set_option maxHeartbeats 4000000 in
theorem refPut_ok (x : BitVec 64) (hx : x.toNat < 2 ^ 62) (w : World) :
    Calls Tryd.prog 30 #[.int .u64 (n64 x)] w (RefOk x (least x) w) := by
  have h : least x = 0 ∧ x.toNat < 2 ^ 6 ∨ least x = 1 ∧ ¬ x.toNat < 2 ^ 6 ∧ x.toNat < 2 ^ 14 ∨ least x = 2 ∧ ¬ x.toNat < 2 ^ 6 ∧ ¬ x.toNat < 2 ^ 14 ∧ x.toNat < 2 ^ 30
      ∨ least x = 3 ∧ ¬ x.toNat < 2 ^ 6 ∧ ¬ x.toNat < 2 ^ 14 ∧ ¬ x.toNat < 2 ^ 30 := by
    unfold least
    split
    · exact .inl ⟨rfl, by omega⟩
    · split
      · exact .inr (.inl ⟨rfl, by omega, by omega⟩)
      · split
        · exact .inr (.inr (.inl ⟨rfl, by omega, by omega, by omega⟩))
        · exact .inr (.inr (.inr ⟨rfl, by omega, by omega, by omega⟩))
  obtain ⟨hl, h6⟩ | ⟨hl, h6, h14⟩ | ⟨hl, h6, h14, h30⟩ | ⟨hl, h6, h14, h30⟩ := h
  · rw [hl]
    have C0 := Lib.hid (refIn_0 x h6)
    clear hl h6 hx
    go_enter Tryd.func30, Tryd.ntmps30
    go_wp2_with fail
    refine wp_loop_rounds 2 ?_
    rw [rounds_succ]
    go_wp2_with fail
    refine (C0.out _).mono ?_
    rintro e w' ⟨rfl, hb⟩
    go_wp2_with fail
    go_ret2
    exact ⟨rfl, hb⟩
  · rw [hl]
    have B0 := Lib.hid (refIn_big x 0 (by decide) h6)
    have C1 := Lib.hid (refIn_1 x h14)
    clear hl h6 h14 hx
    go_enter Tryd.func30, Tryd.ntmps30
    go_wp2_with fail
    refine wp_loop_rounds 3 ?_
    rw [rounds_succ]
    go_wp2_with fail
    refine (B0.out _).mono ?_
    rintro e w' ⟨rfl, rfl⟩
    go_wp2_with fail
    rw [rounds_succ]
    go_wp2_with fail
    refine (C1.out _).mono ?_
    rintro e w' ⟨rfl, hb⟩
    go_wp2_with fail
    go_ret2
    exact ⟨rfl, hb⟩
  · rw [hl]
    have B0 := Lib.hid (refIn_big x 0 (by decide) h6)
    have B1 := Lib.hid (refIn_big x 1 (by decide) h14)
    have C2 := Lib.hid (refIn_2 x h30)
    clear hl h6 h14 h30 hx
    go_enter Tryd.func30, Tryd.ntmps30
    go_wp2_with fail
    refine wp_loop_rounds 4 ?_
    rw [rounds_succ]
    go_wp2_with fail
    refine (B0.out _).mono ?_
    rintro e w' ⟨rfl, rfl⟩
    go_wp2_with fail
    rw [rounds_succ]
    go_wp2_with fail
    refine (B1.out _).mono ?_
    rintro e w' ⟨rfl, rfl⟩
    go_wp2_with fail
    rw [rounds_succ]
    go_wp2_with fail
    refine (C2.out _).mono ?_
    rintro e w' ⟨rfl, hb⟩
    go_wp2_with fail
    go_ret2
    exact ⟨rfl, hb⟩
  · rw [hl]
    have B0 := Lib.hid (refIn_big x 0 (by decide) h6)
    have B1 := Lib.hid (refIn_big x 1 (by decide) h14)
    have B2 := Lib.hid (refIn_big x 2 (by decide) h30)
    have C3 := Lib.hid (refIn_3 x hx)
    clear hl h6 h14 h30 hx
    go_enter Tryd.func30, Tryd.ntmps30
    go_wp2_with fail
    refine wp_loop_rounds 5 ?_
    rw [rounds_succ]
    go_wp2_with fail
    refine (B0.out _).mono ?_
    rintro e w' ⟨rfl, rfl⟩
    go_wp2_with fail
    rw [rounds_succ]
    go_wp2_with fail
    refine (B1.out _).mono ?_
    rintro e w' ⟨rfl, rfl⟩
    go_wp2_with fail
    rw [rounds_succ]
    go_wp2_with fail
    refine (B2.out _).mono ?_
    rintro e w' ⟨rfl, rfl⟩
    go_wp2_with fail
    rw [rounds_succ]
    go_wp2_with fail
    refine (C3.out _).mono ?_
    rintro e w' ⟨rfl, hb⟩
    go_wp2_with fail
    go_ret2
    exact ⟨rfl, hb⟩
set_option maxHeartbeats 4000000 in
theorem refPut_big (x : BitVec 64) (hx : ¬ x.toNat < 2 ^ 62) (w : World) :
    Calls Tryd.prog 30 #[.int .u64 (n64 x)] w (RefNo 5 w) := by
  have B0 := Lib.hid (refIn_big x 0 (by decide) (by simp at hx ⊢; omega))
  have B1 := Lib.hid (refIn_big x 1 (by decide) (by simp at hx ⊢; omega))
  have B2 := Lib.hid (refIn_big x 2 (by decide) (by simp at hx ⊢; omega))
  have B3 := Lib.hid (refIn_big x 3 (by decide) hx)
  clear hx
  go_enter Tryd.func30, Tryd.ntmps30
  go_wp2_with fail
  refine wp_loop_rounds 5 ?_
  rw [rounds_succ]
  go_wp2_with fail
  refine (B0.out _).mono ?_
  rintro e w' ⟨rfl, rfl⟩
  go_wp2_with fail
  rw [rounds_succ]
  go_wp2_with fail
  refine (B1.out _).mono ?_
  rintro e w' ⟨rfl, rfl⟩
  go_wp2_with fail
  rw [rounds_succ]
  go_wp2_with fail
  refine (B2.out _).mono ?_
  rintro e w' ⟨rfl, rfl⟩
  go_wp2_with fail
  rw [rounds_succ]
  go_wp2_with fail
  refine (B3.out _).mono ?_
  rintro e w' ⟨rfl, rfl⟩
  go_wp2_with fail
  rw [rounds_succ]
  go_wp2_with fail
  go_ret2
  exact ⟨rfl, rfl⟩

theorem str_two (f : Nat → BitVec 8) (a b : BitVec 8) (h0 : f 0 = a) (h1 : f 1 = b) : strOf f 2 = ⟨#[UInt8.ofBitVec a, UInt8.ofBitVec b]⟩ := by
  unfold strOf strL
  rw [← h0, ← h1]
  rfl
theorem bytes_same (s : ByteArray) : (s == s) = true := by rw [beq_toListBytes]; simp
end Go.Proofs.YtcgbhcmgddgheabDoor
