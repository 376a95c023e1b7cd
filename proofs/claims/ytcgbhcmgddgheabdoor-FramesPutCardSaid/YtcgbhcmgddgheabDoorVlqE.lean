/-
  Get, OF BYTES AND OF A TEXT: the number at the front, and how many bytes it has.
-/
import Derived.Test.YtcgbhcmgddgheabDoorVlqD
import Derived.Test.YtcgbhcmgddgheabDoorRowIn
namespace Go.Proofs.YtcgbhcmgddgheabDoor
open Go Go.RowKit Go.BigFrame
/-- 2^(gk f) bytes are told by the first one. -/
def gk (f : Nat → BitVec 8) : Nat := (f 0 >>> 6).toNat
theorem gk_lt (f : Nat → BitVec 8) : gk f < 4 := by unfold gk; rw [BitVec.toNat_ushiftRight, Nat.shiftRight_eq_div_pow]; have := (f 0).isLt; omega
def isNum (f : Nat → BitVec 8) (len : Nat) : Bool := decide (len ≠ 0 ∧ 2 ^ gk f ≤ len)
def getV (f : Nat → BitVec 8) (len : Nat) : Nat := if isNum f len = true then (getN f (2 ^ gk f - 1)).toNat else 0
def getK (f : Nat → BitVec 8) (len : Nat) : Nat := if isNum f len = true then 2 ^ gk f else 0
def getE (f : Nat → BitVec 8) (len : Nat) : Int := if isNum f len = true then 0 else 3
def gotten (f : Nat → BitVec 8) (len : Nat) : Value := .tuple #[.int .u64 (getV f len : Int), .int .i64 (getK f len : Int), .int .i64 (getE f len)]
theorem gotten_no {f : Nat → BitVec 8} {len : Nat} (h : ¬ (len ≠ 0 ∧ 2 ^ gk f ≤ len)) : gotten f len = .tuple #[.int .u64 0, .int .i64 0, .int .i64 3] := by
  have : isNum f len = false := by unfold isNum; exact decide_eq_false h
  unfold gotten getV getK getE
  simp [this]
theorem gotten_yes {f : Nat → BitVec 8} {len k n : Nat} (h0 : len ≠ 0) (h1 : 2 ^ gk f ≤ len) (hk : gk f = k) (hn : 2 ^ k = n) : gotten f len = .tuple #[.int .u64 (n64 (getN f (n - 1))), .int .i64 (n : Int), .int .i64 0] := by
  have : isNum f len = true := by unfold isNum; exact decide_eq_true ⟨h0, h1⟩
  subst hn hk
  unfold gotten getV getK getE
  rw [n64_nat]
  simp [this]
theorem first_code {f : Nat → BitVec 8} {k : Nat} (h : gk f = k) : n8 (f 0 >>> 6) = (k : Int) := by rw [n8_nat]; unfold gk at h; rw [h]
theorem first_div {f : Nat → BitVec 8} {k : Nat} (h : gk f = k) : n8 (f 0) / 64 = (k : Int) := by
  rw [n8_nat]
  unfold gk at h
  rw [BitVec.toNat_ushiftRight, Nat.shiftRight_eq_div_pow] at h
  omega
theorem rem64 (t : TypeId) (x : BitVec 8) : binOp .rem t (.int .u8 (n8 x)) (.int .u8 64) = pure (.int .u8 (n8 (x &&& 63#8))) := by
  have h : (n8 x).tmod 64 = n8 (x &&& 63#8) := by
    rw [n8_nat, n8_nat, Int.tmod_eq_emod_of_nonneg (by omega), BitVec.toNat_and, show (63#8).toNat = 2 ^ 6 - 1 from rfl, Nat.and_two_pow_sub_one_eq_mod]
    omega
  simp [binOp_rem, Op.intDiv, h]
attribute [go_sem high] rem64
theorem str_get (f : Nat → BitVec 8) (n i : Nat) (h : i < n) : (strOf f n)[i]? = some (UInt8.ofBitVec (f i)) := by
  have hs : i < (strOf f n).size := by rw [strOf_size]; exact h
  rw [ByteArray.getElem?_lt' _ _ hs]
  congr 1
  show (strL f n).toArray[i]'_ = _
  simp [strL]
theorem str_at (f : Nat → BitVec 8) (n i : Nat) (h : i < (strOf f n).size) : (((strOf f n)[i]'h).toNat : Int) = n8 (f i) := by
  have h2 : i < n := by rwa [strOf_size] at h
  have h1 := str_get f n i h2
  rw [ByteArray.getElem?_lt' _ _ h] at h1
  injection h1 with h1
  rw [h1, ← n8_u8]
theorem run_at_str (f : Nat → BitVec 8) (n i : Nat) (h : i < n) (w : World) : (Instr.index 9 (.string (strOf f n)) (.int .i64 (i : Int))).run Tryd.prog w = .ok (.int .u8 (n8 (f i))) w := by
  have hu : Tryd.prog.underlying 9 = some .string := by kernel_rfl
  have hi := str_get f n i h
  have h0 : (0 : Int) ≤ (i : Int) := by omega
  unfold Instr.index
  simp only [Sem.run_bind, asIntOf, Sem.run_pure, Result.andThen_ok, run_underlying hu w, if_pos h0, Int.toNat_natCast, hi]
  rw [n8_u8]
theorem getN_step (f : Nat → BitVec 8) (j : Nat) : getN f j * 256#64 + (f (j + 1)).setWidth 64 = getN f (j + 1) := (step_or _ _).symm
set_option maxHeartbeats 1000000 in
theorem get_none (f : Nat → BitVec 8) (a : Option Addr) (cap : Nat) (w : World) :
    Calls Tryd.prog 48 #[.slice a 0 cap] w fun e w' => e = .returned (gotten f 0) ∧ w = w' := by
  rw [gotten_no (by simp)]
  go_enter Tryd.func48, Tryd.ntmps48
  go_wp2_with fail
  go_ret3
  exact ⟨rfl, rfl⟩

set_option maxHeartbeats 4000000 in
theorem get_all_0 (f : Nat → BitVec 8) (b off len cap : Nat) (w : World) (hc : ∀ i, i < len → w.cell? ⟨b, off + i, none⟩ = some (.int .u8 (n8 (f i)))) (hk : gk f = 0) (hl : 1 ≤ len) (hlc : len ≤ cap) (hm : cap ≤ 9223372036854775807) :
    Calls Tryd.prog 48 #[.slice (some ⟨b, off, none⟩) len cap] w fun e w' => e = .returned (gotten f len) ∧ w = w' := by
  rw [gotten_yes (k := 0) (n := 1) (by omega) (by rw [hk]; simpa using hl) hk rfl]
  have hm2 : len ≤ 9223372036854775807 := by omega
  have e1 := first_code hk
  have c0 := hc 0 (by omega)
  rw [Nat.add_zero] at c0
  have Hc := Lib.hid hc
  clear hk hc
  go_enter Tryd.func48, Tryd.ntmps48
  go_wp2_with fail
  all_goals
    refine wp_loop_rounds 1 ?_
    rw [rounds_succ]
    go_wp2_with fail
    go_ret3
    exact ⟨rfl, rfl⟩

set_option maxHeartbeats 1000000 in
theorem get_few_1 (f : Nat → BitVec 8) (b off len cap : Nat) (w : World) (h0 : len ≠ 0) (hc : w.cell? ⟨b, off, none⟩ = some (.int .u8 (n8 (f 0)))) (hk : gk f = 1) (hl : len < 2) :
    Calls Tryd.prog 48 #[.slice (some ⟨b, off, none⟩) len cap] w fun e w' => e = .returned (gotten f len) ∧ w = w' := by
  rw [gotten_no (by rw [hk]; simp; omega)]
  have hm : len ≤ 9223372036854775807 := by omega
  have e1 := first_code hk
  clear hk
  have h2 : 0 < (len : Int) := by omega
  go_enter Tryd.func48, Tryd.ntmps48
  go_wp2_with fail
  go_ret3
  exact ⟨rfl, rfl⟩

set_option maxHeartbeats 4000000 in
theorem get_all_1 (f : Nat → BitVec 8) (b off len cap : Nat) (w : World) (hc : ∀ i, i < len → w.cell? ⟨b, off + i, none⟩ = some (.int .u8 (n8 (f i)))) (hk : gk f = 1) (hl : 2 ≤ len) (hlc : len ≤ cap) (hm : cap ≤ 9223372036854775807) :
    Calls Tryd.prog 48 #[.slice (some ⟨b, off, none⟩) len cap] w fun e w' => e = .returned (gotten f len) ∧ w = w' := by
  rw [gotten_yes (k := 1) (n := 2) (by omega) (by rw [hk]; simpa using hl) hk rfl]
  have hm2 : len ≤ 9223372036854775807 := by omega
  have e1 := first_code hk
  have c0 := hc 0 (by omega)
  rw [Nat.add_zero] at c0
  have Hc := Lib.hid hc
  clear hk hc
  go_enter Tryd.func48, Tryd.ntmps48
  go_wp2_with fail
  go_loopw [6, 8, 30] (fun s6 _ s30 wr => ∃ j : Nat, j ≤ 1 ∧ s30 = .int .i64 (j : Int) ∧ s6 = .int .u64 (n64 (getN f j)) ∧ w = wr) (fun _ _ s30 _ => 1 - (intOf s30).toNat)
  case atStart => exact ⟨0, by omega, rfl, rfl, rfl⟩
  case round =>
    obtain ⟨j, hj, rfl, rfl, rfl⟩ := hrel
    by_cases hlt : j < 1
    · have cj := Hc.out (1 + j) (by omega)
      rw [← Nat.add_assoc] at cj
      have e2 : n64 (getN f j <<< 8 ||| (f (1 + j)).setWidth 64) = n64 (getN f (j + 1)) := by rw [Nat.add_comm 1 j]; rfl
      go_wp2_with fail
      go_roundw
      case rel => exact ⟨j + 1, by omega, by go_num, by first | rfl | rw [e2], trivial⟩
      case measure => simp [intOf] <;> omega
    · obtain rfl : j = 1 := by omega
      go_wp2_with fail
      go_ret3
      exact ⟨rfl, rfl⟩

set_option maxHeartbeats 1000000 in
theorem get_few_2 (f : Nat → BitVec 8) (b off len cap : Nat) (w : World) (h0 : len ≠ 0) (hc : w.cell? ⟨b, off, none⟩ = some (.int .u8 (n8 (f 0)))) (hk : gk f = 2) (hl : len < 4) :
    Calls Tryd.prog 48 #[.slice (some ⟨b, off, none⟩) len cap] w fun e w' => e = .returned (gotten f len) ∧ w = w' := by
  rw [gotten_no (by rw [hk]; simp; omega)]
  have hm : len ≤ 9223372036854775807 := by omega
  have e1 := first_code hk
  clear hk
  have h2 : 0 < (len : Int) := by omega
  go_enter Tryd.func48, Tryd.ntmps48
  go_wp2_with fail
  go_ret3
  exact ⟨rfl, rfl⟩

set_option maxHeartbeats 4000000 in
theorem get_all_2 (f : Nat → BitVec 8) (b off len cap : Nat) (w : World) (hc : ∀ i, i < len → w.cell? ⟨b, off + i, none⟩ = some (.int .u8 (n8 (f i)))) (hk : gk f = 2) (hl : 4 ≤ len) (hlc : len ≤ cap) (hm : cap ≤ 9223372036854775807) :
    Calls Tryd.prog 48 #[.slice (some ⟨b, off, none⟩) len cap] w fun e w' => e = .returned (gotten f len) ∧ w = w' := by
  rw [gotten_yes (k := 2) (n := 4) (by omega) (by rw [hk]; simpa using hl) hk rfl]
  have hm2 : len ≤ 9223372036854775807 := by omega
  have e1 := first_code hk
  have c0 := hc 0 (by omega)
  rw [Nat.add_zero] at c0
  have Hc := Lib.hid hc
  clear hk hc
  go_enter Tryd.func48, Tryd.ntmps48
  go_wp2_with fail
  go_loopw [6, 8, 30] (fun s6 _ s30 wr => ∃ j : Nat, j ≤ 3 ∧ s30 = .int .i64 (j : Int) ∧ s6 = .int .u64 (n64 (getN f j)) ∧ w = wr) (fun _ _ s30 _ => 3 - (intOf s30).toNat)
  case atStart => exact ⟨0, by omega, rfl, rfl, rfl⟩
  case round =>
    obtain ⟨j, hj, rfl, rfl, rfl⟩ := hrel
    by_cases hlt : j < 3
    · have cj := Hc.out (1 + j) (by omega)
      rw [← Nat.add_assoc] at cj
      have e2 : n64 (getN f j <<< 8 ||| (f (1 + j)).setWidth 64) = n64 (getN f (j + 1)) := by rw [Nat.add_comm 1 j]; rfl
      go_wp2_with fail
      go_roundw
      case rel => exact ⟨j + 1, by omega, by go_num, by first | rfl | rw [e2], trivial⟩
      case measure => simp [intOf] <;> omega
    · obtain rfl : j = 3 := by omega
      go_wp2_with fail
      go_ret3
      exact ⟨rfl, rfl⟩

set_option maxHeartbeats 1000000 in
theorem get_few_3 (f : Nat → BitVec 8) (b off len cap : Nat) (w : World) (h0 : len ≠ 0) (hc : w.cell? ⟨b, off, none⟩ = some (.int .u8 (n8 (f 0)))) (hk : gk f = 3) (hl : len < 8) :
    Calls Tryd.prog 48 #[.slice (some ⟨b, off, none⟩) len cap] w fun e w' => e = .returned (gotten f len) ∧ w = w' := by
  rw [gotten_no (by rw [hk]; simp; omega)]
  have hm : len ≤ 9223372036854775807 := by omega
  have e1 := first_code hk
  clear hk
  have h2 : 0 < (len : Int) := by omega
  go_enter Tryd.func48, Tryd.ntmps48
  go_wp2_with fail
  go_ret3
  exact ⟨rfl, rfl⟩

set_option maxHeartbeats 4000000 in
theorem get_all_3 (f : Nat → BitVec 8) (b off len cap : Nat) (w : World) (hc : ∀ i, i < len → w.cell? ⟨b, off + i, none⟩ = some (.int .u8 (n8 (f i)))) (hk : gk f = 3) (hl : 8 ≤ len) (hlc : len ≤ cap) (hm : cap ≤ 9223372036854775807) :
    Calls Tryd.prog 48 #[.slice (some ⟨b, off, none⟩) len cap] w fun e w' => e = .returned (gotten f len) ∧ w = w' := by
  rw [gotten_yes (k := 3) (n := 8) (by omega) (by rw [hk]; simpa using hl) hk rfl]
  have hm2 : len ≤ 9223372036854775807 := by omega
  have e1 := first_code hk
  have c0 := hc 0 (by omega)
  rw [Nat.add_zero] at c0
  have Hc := Lib.hid hc
  clear hk hc
  go_enter Tryd.func48, Tryd.ntmps48
  go_wp2_with fail
  go_loopw [6, 8, 30] (fun s6 _ s30 wr => ∃ j : Nat, j ≤ 7 ∧ s30 = .int .i64 (j : Int) ∧ s6 = .int .u64 (n64 (getN f j)) ∧ w = wr) (fun _ _ s30 _ => 7 - (intOf s30).toNat)
  case atStart => exact ⟨0, by omega, rfl, rfl, rfl⟩
  case round =>
    obtain ⟨j, hj, rfl, rfl, rfl⟩ := hrel
    by_cases hlt : j < 7
    · have cj := Hc.out (1 + j) (by omega)
      rw [← Nat.add_assoc] at cj
      have e2 : n64 (getN f j <<< 8 ||| (f (1 + j)).setWidth 64) = n64 (getN f (j + 1)) := by rw [Nat.add_comm 1 j]; rfl
      go_wp2_with fail
      go_roundw
      case rel => exact ⟨j + 1, by omega, by go_num, by first | rfl | rw [e2], trivial⟩
      case measure => simp [intOf] <;> omega
    · obtain rfl : j = 7 := by omega
      go_wp2_with fail
      go_ret3
      exact ⟨rfl, rfl⟩

theorem get_any (f : Nat → BitVec 8) (a : Option Addr) (len cap : Nat) (w : World) (hb : BytesIn w a len f) (hlc : len ≤ cap) (hm : cap ≤ maxLen) :
    Calls Tryd.prog 48 #[.slice a len cap] w fun e w' => e = .returned (gotten f len) ∧ w = w' := by
  have hm' : cap ≤ 9223372036854775807 := by unfold maxLen at hm; omega
  by_cases h0 : len = 0
  · subst h0; exact get_none f a cap w
  obtain h | ⟨b, off, rfl, hbb, hc⟩ := hb.2
  · exact absurd h h0
  have hk := gk_lt f
  have c0 := hc 0 (by omega)
  rw [Nat.add_zero] at c0
  obtain hk | hk | hk | hk : gk f = 0 ∨ gk f = 1 ∨ gk f = 2 ∨ gk f = 3 := by omega
  · exact get_all_0 f b off len cap w hc hk (by omega) hlc hm'
  · by_cases hl : len < 2
    · exact get_few_1 f b off len cap w h0 c0 hk hl
    · exact get_all_1 f b off len cap w hc hk (by omega) hlc hm'
  · by_cases hl : len < 4
    · exact get_few_2 f b off len cap w h0 c0 hk hl
    · exact get_all_2 f b off len cap w hc hk (by omega) hlc hm'
  · by_cases hl : len < 8
    · exact get_few_3 f b off len cap w h0 c0 hk hl
    · exact get_all_3 f b off len cap w hc hk (by omega) hlc hm'
theorem str_empty (f : Nat → BitVec 8) : strOf f 0 = ⟨#[]⟩ := by simp [strOf, strL]
theorem str_full {f : Nat → BitVec 8} {n : Nat} (h : n ≠ 0) : (strOf f n).toList.isEmpty = false := by
  have h1 : (strOf f n).toList.length = n := by rw [ByteArray.toList_eq]; simp [strOf, strL]
  cases hl : (strOf f n).toList with
  | nil => rw [hl] at h1; simp at h1; omega
  | cons a l => rfl
end Go.Proofs.YtcgbhcmgddgheabDoor
