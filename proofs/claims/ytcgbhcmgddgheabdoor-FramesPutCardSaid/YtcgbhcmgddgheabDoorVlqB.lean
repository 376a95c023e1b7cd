/-
  THE CALLS OF PACKAGE vlq, SECOND PART: PutIn and Put, of each kind of number.
-/
import Derived.Test.YtcgbhcmgddgheabDoorVlqA
import Derived.Deep.DeepCutAuto
namespace Go.Proofs.YtcgbhcmgddgheabDoor
open Go Go.RowKit Go.BigFrame
/-- The bytes of x in the size 2^k, in new memory. -/
def PutOk (x : BitVec 64) (k : Nat) (w : World) (e : Ending) (w' : World) : Prop :=
  ∃ r, e = .returned (.tuple #[.slice (some ⟨r, 0, none⟩) (2 ^ k) (2 ^ k), .int .i64 0]) ∧ MyRow w r (2 ^ k) 5 (vbyte x k) w'
theorem byte_at (v : BitVec 64) (e : Nat) : n64 v / 2 ^ e % 256 = n8 ((v >>> e).setWidth 8) := by
  rw [n64_nat, n8_nat, BitVec.toNat_setWidth, BitVec.toNat_ushiftRight, Nat.shiftRight_eq_div_pow]
  have : ((2 : Int) ^ e) = ((2 ^ e : Nat) : Int) := by push_cast; rfl
  rw [this, ← Int.natCast_ediv]
  omega
def PutNo (c : Int) (w : World) (e : Ending) (w' : World) : Prop := e = .returned (.tuple #[.slice none 0 0, .int .i64 c]) ∧ w = w'
theorem putOk_mk {x : BitVec 64} {k n : Nat} {w w' : World} {r : Nat} {f : Nat → BitVec 8} (_hn : n = 2 ^ k) (h : MyRow w r n 5 f w') (hf : ∀ i, i < n → f i = vbyte x k i) :
    PutOk x k w (.returned (.tuple #[.slice (some ⟨r, 0, none⟩) n n, .int .i64 0])) w' := by
  subst _hn
  refine ⟨r, rfl, h.below, ?_, h.new⟩
  rw [← bytesArr_congr f _ _ hf]; exact h.row
/-- The value with the size's bits beside it. -/
def coded (x : BitVec 64) (k : Nat) : BitVec 64 := x ||| (BitVec.ofNat 64 k <<< (8 * 2 ^ k - 2))
theorem vbyte_coded (x : BitVec 64) (k i : Nat) : vbyte x k i = (coded x k >>> (8 * (2 ^ k - 1 - i))).setWidth 8 := rfl
theorem coded0 (x : BitVec 64) : coded x 0 = x := by unfold coded; simp
theorem coded1 (x : BitVec 64) : coded x 1 = x ||| 16384#64 := by unfold coded; rfl
theorem coded2 (x : BitVec 64) : coded x 2 = x ||| 2147483648#64 := by unfold coded; rfl
theorem coded3 (x : BitVec 64) : coded x 3 = x ||| 13835058055282163712#64 := by unfold coded; rfl
theorem byte_upd {v : BitVec 64} {n j : Nat} {f : Nat → BitVec 8} {y : BitVec 8} (hf : ∀ i, i < j → f i = (v >>> (8 * (n - 1 - i))).setWidth 8) (hy : y = (v >>> (8 * (n - 1 - j))).setWidth 8) :
    ∀ i, i < j + 1 → updb f j y i = (v >>> (8 * (n - 1 - i))).setWidth 8 := by
  intro i hi
  unfold updb
  by_cases h : i = j
  · rw [if_pos h, hy, h]
  · rw [if_neg h]; exact hf i (by omega)

set_option maxRecDepth 100000 in
set_option maxHeartbeats 4000000 in
theorem putIn_int_0 (m : Int) (x : BitVec 64) (hm : IntKind.u64.wrap m = n64 x) (hx : x.toNat < 2 ^ 6) (w : World) (tab : Tab w) :
    Calls Tryd.prog 51 #[.int .i64 m, .int .i64 1] w (PutOk x 0 w) := by
  have hz := shr_zero _ _ hx
  have mk := run_make_bytes 1 (by decide)
  have tz := tz_any 0 (by decide) w tab
  simp only [Nat.reducePow, Int.cast_ofNat_Int] at mk tz
  have Tz := Lib.hid tz
  clear tz hx
  go_enter Tryd.func51, Tryd.ntmps51
  go_wp2_with (go_at_call 53; refine Tz.out.mono ?_; rintro e w' ⟨rfl, rfl⟩)
  have st := MyRow.made (Below.refl w.heap.size w) (fun _ => 0#8) 1 5
  generalize w.heap.size = r at *
  generalize w.alloc _ = wa at *
  clear mk hz
  go_loopw [37] (fun s wr => ∃ j f, j ≤ 1 ∧ s = .int .i64 ((j : Nat) : Int) ∧ (∀ i, i < j → f i = (x >>> (8 * (1 - 1 - i))).setWidth 8) ∧ MyRow w r 1 5 f wr)
    (fun s _ => 1 - (intOf s).toNat)
  case atStart => exact ⟨0, _, by omega, rfl, fun i hi => by omega, st⟩
  case round =>
    clear st
    obtain ⟨j, f, hj, rfl, hf, st⟩ := hrel
    have F := Lib.hid hf
    clear hf
    by_cases hlt : j < 1
    · have c0 := st.at j hlt
      have f0 := st.free j
      go_wp2_with fail
      go_roundw
      case rel =>
        refine ⟨j + 1, _, by omega, by go_num, byte_upd F.out rfl, ?_⟩
        rw [show (8 * -(j : Int)).toNat = 8 * (1 - 1 - j) from by omega]
        rw [byte_at]
        exact st.set j _
      case measure => simp [intOf]; omega
    · obtain rfl : j = 1 := by omega
      go_wp2_with fail
      go_ret2
      exact putOk_mk rfl st (fun i hi => by rw [vbyte_coded, (coded0 _)]; exact F.out i hi)

set_option maxRecDepth 100000 in
set_option maxHeartbeats 4000000 in
theorem putIn_int_1 (m : Int) (x : BitVec 64) (hm : IntKind.u64.wrap m = n64 x) (hx : x.toNat < 2 ^ 14) (w : World) (tab : Tab w) :
    Calls Tryd.prog 51 #[.int .i64 m, .int .i64 2] w (PutOk x 1 w) := by
  have hz := shr_zero _ _ hx
  have mk := run_make_bytes 2 (by decide)
  have tz := tz_any 1 (by decide) w tab
  simp only [Nat.reducePow, Int.cast_ofNat_Int] at mk tz
  have Tz := Lib.hid tz
  clear tz hx
  go_enter Tryd.func51, Tryd.ntmps51
  go_wp2_with (go_at_call 53; refine Tz.out.mono ?_; rintro e w' ⟨rfl, rfl⟩)
  generalize hv : x ||| 16384#64 = v at *
  have HV := Lib.hid hv
  clear hv
  have st := MyRow.made (Below.refl w.heap.size w) (fun _ => 0#8) 2 5
  generalize w.heap.size = r at *
  generalize w.alloc _ = wa at *
  clear mk hz
  go_loopw [37] (fun s wr => ∃ j f, j ≤ 2 ∧ s = .int .i64 ((j : Nat) : Int) ∧ (∀ i, i < j → f i = (v >>> (8 * (2 - 1 - i))).setWidth 8) ∧ MyRow w r 2 5 f wr)
    (fun s _ => 2 - (intOf s).toNat)
  case atStart => exact ⟨0, _, by omega, rfl, fun i hi => by omega, st⟩
  case round =>
    clear st
    obtain ⟨j, f, hj, rfl, hf, st⟩ := hrel
    have F := Lib.hid hf
    clear hf
    by_cases hlt : j < 2
    · have c0 := st.at j hlt
      have f0 := st.free j
      go_wp2_with fail
      go_roundw
      case rel =>
        refine ⟨j + 1, _, by omega, by go_num, byte_upd F.out rfl, ?_⟩
        rw [byte_at]
        exact st.set j _
      case measure => simp [intOf]; omega
    · obtain rfl : j = 2 := by omega
      go_wp2_with fail
      go_ret2
      exact putOk_mk rfl st (fun i hi => by rw [vbyte_coded, ((coded1 _).trans HV.out)]; exact F.out i hi)

set_option maxRecDepth 100000 in
set_option maxHeartbeats 4000000 in
theorem putIn_int_2 (m : Int) (x : BitVec 64) (hm : IntKind.u64.wrap m = n64 x) (hx : x.toNat < 2 ^ 30) (w : World) (tab : Tab w) :
    Calls Tryd.prog 51 #[.int .i64 m, .int .i64 4] w (PutOk x 2 w) := by
  have hz := shr_zero _ _ hx
  have mk := run_make_bytes 4 (by decide)
  have tz := tz_any 2 (by decide) w tab
  simp only [Nat.reducePow, Int.cast_ofNat_Int] at mk tz
  have Tz := Lib.hid tz
  clear tz hx
  go_enter Tryd.func51, Tryd.ntmps51
  go_wp2_with (go_at_call 53; refine Tz.out.mono ?_; rintro e w' ⟨rfl, rfl⟩)
  generalize hv : x ||| 2147483648#64 = v at *
  have HV := Lib.hid hv
  clear hv
  have st := MyRow.made (Below.refl w.heap.size w) (fun _ => 0#8) 4 5
  generalize w.heap.size = r at *
  generalize w.alloc _ = wa at *
  clear mk hz
  go_loopw [37] (fun s wr => ∃ j f, j ≤ 4 ∧ s = .int .i64 ((j : Nat) : Int) ∧ (∀ i, i < j → f i = (v >>> (8 * (4 - 1 - i))).setWidth 8) ∧ MyRow w r 4 5 f wr)
    (fun s _ => 4 - (intOf s).toNat)
  case atStart => exact ⟨0, _, by omega, rfl, fun i hi => by omega, st⟩
  case round =>
    clear st
    obtain ⟨j, f, hj, rfl, hf, st⟩ := hrel
    have F := Lib.hid hf
    clear hf
    by_cases hlt : j < 4
    · have c0 := st.at j hlt
      have f0 := st.free j
      go_wp2_with fail
      go_roundw
      case rel =>
        refine ⟨j + 1, _, by omega, by go_num, byte_upd F.out rfl, ?_⟩
        rw [byte_at]
        exact st.set j _
      case measure => simp [intOf]; omega
    · obtain rfl : j = 4 := by omega
      go_wp2_with fail
      go_ret2
      exact putOk_mk rfl st (fun i hi => by rw [vbyte_coded, ((coded2 _).trans HV.out)]; exact F.out i hi)

set_option maxRecDepth 100000 in
set_option maxHeartbeats 4000000 in
theorem putIn_int_3 (m : Int) (x : BitVec 64) (hm : IntKind.u64.wrap m = n64 x) (hx : x.toNat < 2 ^ 62) (w : World) (tab : Tab w) :
    Calls Tryd.prog 51 #[.int .i64 m, .int .i64 8] w (PutOk x 3 w) := by
  have hz := shr_zero _ _ hx
  have mk := run_make_bytes 8 (by decide)
  have tz := tz_any 3 (by decide) w tab
  simp only [Nat.reducePow, Int.cast_ofNat_Int] at mk tz
  have Tz := Lib.hid tz
  clear tz hx
  go_enter Tryd.func51, Tryd.ntmps51
  go_wp2_with (go_at_call 53; refine Tz.out.mono ?_; rintro e w' ⟨rfl, rfl⟩)
  generalize hv : x ||| 13835058055282163712#64 = v at *
  have HV := Lib.hid hv
  clear hv
  have st := MyRow.made (Below.refl w.heap.size w) (fun _ => 0#8) 8 5
  generalize w.heap.size = r at *
  generalize w.alloc _ = wa at *
  clear mk hz
  go_loopw [37] (fun s wr => ∃ j f, j ≤ 8 ∧ s = .int .i64 ((j : Nat) : Int) ∧ (∀ i, i < j → f i = (v >>> (8 * (8 - 1 - i))).setWidth 8) ∧ MyRow w r 8 5 f wr)
    (fun s _ => 8 - (intOf s).toNat)
  case atStart => exact ⟨0, _, by omega, rfl, fun i hi => by omega, st⟩
  case round =>
    clear st
    obtain ⟨j, f, hj, rfl, hf, st⟩ := hrel
    have F := Lib.hid hf
    clear hf
    by_cases hlt : j < 8
    · have c0 := st.at j hlt
      have f0 := st.free j
      go_wp2_with fail
      go_roundw
      case rel =>
        refine ⟨j + 1, _, by omega, by go_num, byte_upd F.out rfl, ?_⟩
        rw [byte_at]
        exact st.set j _
      case measure => simp [intOf]; omega
    · obtain rfl : j = 8 := by omega
      go_wp2_with fail
      go_ret2
      exact putOk_mk rfl st (fun i hi => by rw [vbyte_coded, ((coded3 _).trans HV.out)]; exact F.out i hi)

set_option maxHeartbeats 4000000 in
theorem putIn_int_big3 (m : Int) (x : BitVec 64) (hm : IntKind.u64.wrap m = n64 x) (hx : ¬ x.toNat < 2 ^ 62) (w : World) :
    Calls Tryd.prog 51 #[.int .i64 m, .int .i64 8] w (PutNo 5 w) := by
  have hz := shr_more _ _ hx
  clear hx
  go_enter Tryd.func51, Tryd.ntmps51
  go_wp2_with fail
  go_ret2
  exact ⟨rfl, rfl⟩

theorem putIn_int_ok (m : Int) (x : BitVec 64) (hm : IntKind.u64.wrap m = n64 x) (k : Nat) (hk : k < 4) (hx : x.toNat < 2 ^ (8 * 2 ^ k - 2)) (w : World) (tab : Tab w) :
    Calls Tryd.prog 51 #[.int .i64 m, .int .i64 ((2 ^ k : Nat) : Int)] w (PutOk x k w) := by
  obtain rfl | rfl | rfl | rfl : k = 0 ∨ k = 1 ∨ k = 2 ∨ k = 3 := by omega
  · exact putIn_int_0 m x hm hx w tab
  · exact putIn_int_1 m x hm hx w tab
  · exact putIn_int_2 m x hm hx w tab
  · exact putIn_int_3 m x hm hx w tab
set_option maxHeartbeats 4000000 in
theorem put_int_ok (m : Int) (x : BitVec 64) (hm : IntKind.u64.wrap m = n64 x) (hx : x.toNat < 2 ^ 62) (w : World) (tab : Tab w) :
    Calls Tryd.prog 47 #[.int .i64 m] w (PutOk x (least x) w) := by
  have hl := putIn_int_ok m x hm (least x) (least_lt _) (least_fits _ hx) w tab
  have Hl := Lib.hid hl
  clear hl hx tab
  go_enter Tryd.func47, Tryd.ntmps47
  go_wp2_with fail
  refine (least_any _ _).mono ?_
  rintro e w' ⟨rfl, rfl⟩
  go_wp2_with fail
  refine Hl.out.mono ?_
  rintro e w' ⟨r, rfl, hrow⟩
  go_wp2_with fail
  go_ret2
  exact ⟨r, rfl, hrow⟩

theorem least_top_int (x : BitVec 64) (hx : ¬ x.toNat < 2 ^ 62) : least x = 3 := by unfold least; rw [if_neg (by omega), if_neg (by omega), if_neg (by omega)]
set_option maxHeartbeats 4000000 in
theorem put_int_big (m : Int) (x : BitVec 64) (hm : IntKind.u64.wrap m = n64 x) (hx : ¬ x.toNat < 2 ^ 62) (w : World) :
    Calls Tryd.prog 47 #[.int .i64 m] w (PutNo 5 w) := by
  have hl := putIn_int_big3 m x hm hx w
  have Hl := Lib.hid hl
  have lt := least_any x w
  rw [least_top_int _ hx] at lt
  have Lt := Lib.hid lt
  clear hl hx lt
  go_enter Tryd.func47, Tryd.ntmps47
  go_wp2_with fail
  refine Lt.out.mono ?_
  rintro e w' ⟨rfl, rfl⟩
  go_wp2_with fail
  refine Hl.out.mono ?_
  rintro e w' ⟨rfl, rfl⟩
  go_wp2_with fail
  go_ret2
  exact ⟨rfl, rfl⟩

end Go.Proofs.YtcgbhcmgddgheabDoor
