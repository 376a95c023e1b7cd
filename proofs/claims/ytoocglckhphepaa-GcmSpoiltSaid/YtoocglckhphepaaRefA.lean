/-
  THE DOCUMENT'S ANSWER FOR aes, FIRST PART: twice, times, Sub.
-/
import Derived.Test.YtoocglckhphepaaBytes
namespace Go.Proofs.Ytoocglckhphepaa
open Go Go.RowKit Go.BigFrame
def twiceR (x : BitVec 8) : BitVec 8 := if 128 ≤ x.toNat then x <<< 1 ^^^ 0x1B#8 else x <<< 1
/-- The product, from its parts: a, b and what is put together. -/
def timesF : Nat → BitVec 8 → BitVec 8 → BitVec 8 → BitVec 8
  | 0, _, _, o => o
  | n + 1, x, y, o => if y = 0#8 then o else timesF n (twiceR x) (y >>> 1) (if y.toNat % 2 = 1 then o ^^^ x else o)
def timesR (x y : BitVec 8) : BitVec 8 := timesF 8 x y 0#8
set_option maxHeartbeats 400000 in
theorem twice_any (x : BitVec 8) (w : World) :
    Calls Try.prog 42 #[.int .u8 (n8 x)] w fun e w' => e = .returned (.int .u8 (n8 (twiceR x))) ∧ w = w' := by
  by_cases h : 128 ≤ x.toNat
  · have h1 : (128 : Int) ≤ n8 x := by rw [n8_nat]; omega
    go_enter Try.func42, Try.ntmps42
    go_wp2_with fail
    go_ret
    exact ⟨by rw [twiceR, if_pos h]; rfl, rfl⟩
  · have h1 : n8 x < 128 := by rw [n8_nat]; omega
    go_enter Try.func42, Try.ntmps42
    go_wp2_with fail
    go_ret
    exact ⟨by rw [twiceR, if_neg h]; rfl, rfl⟩
theorem half8 (y : BitVec 8) : (n8 y).tdiv 2 = n8 (y >>> 1) := by
  rw [n8_nat, n8_nat, Int.tdiv_eq_ediv_of_nonneg (by omega), BitVec.toNat_ushiftRight, Nat.shiftRight_eq_div_pow]
  omega
theorem n8mod (z : BitVec 8) : n8 z % 256 = n8 z := by
  rw [n8_nat]
  have := z.isLt
  omega
theorem odd8 (y : BitVec 8) : (n8 y).tmod 2 = ((y.toNat % 2 : Nat) : Int) := by
  rw [n8_nat, Int.tmod_eq_emod_of_nonneg (by omega)]
  omega
set_option maxHeartbeats 1000000 in
theorem times_any (x y : BitVec 8) (w : World) :
    Calls Try.prog 54 #[.int .u8 (n8 x), .int .u8 (n8 y)] w fun e w' => e = .returned (.int .u8 (n8 (timesR x y))) ∧ w = w' := by
  go_enter Try.func54, Try.ntmps54
  go_wp2_with fail
  go_loopw [0, 1, 5] (fun s0 s1 s5 wr => ∃ n a b o, s0 = .int .u8 (n8 a) ∧ s1 = .int .u8 (n8 b) ∧ s5 = .int .u8 (n8 o) ∧ b.toNat < 2 ^ n ∧ timesF n a b o = timesR x y ∧ w = wr)
    (fun _ s1 _ _ => (intOf s1).toNat)
  case atStart => exact ⟨8, x, y, 0#8, rfl, rfl, by rw [n8_nat]; rfl, y.isLt, rfl, rfl⟩
  case round =>
    obtain ⟨n, a, b, o, rfl, rfl, rfl, hb, hf, rfl⟩ := hrel
    by_cases h0 : b = 0#8
    · subst h0
      have e0 : n8 0#8 = 0 := by rw [n8_nat]; rfl
      have ho : o = timesR x y := by rw [← hf]; cases n <;> simp [timesF]
      go_wp2_with fail
      go_ret
      exact ⟨by rw [ho]; rfl, rfl⟩
    · have hpos : (0 : Int) < n8 b := by
        rw [n8_nat]
        have : b.toNat ≠ 0 := fun e => h0 (BitVec.eq_of_toNat_eq e)
        omega
      obtain ⟨m, rfl⟩ : ∃ m, n = m + 1 := by
        cases n with
        | zero => exact absurd (BitVec.eq_of_toNat_eq (by simpa using hb) : b = 0#8) h0
        | succ m => exact ⟨m, rfl⟩
      have hsh : (b >>> 1).toNat < 2 ^ m := by
        rw [BitVec.toNat_ushiftRight, Nat.shiftRight_eq_div_pow, Nat.pow_one]
        rw [Nat.pow_succ] at hb
        omega
      have hlt : (b >>> 1).toNat < b.toNat := by
        rw [BitVec.toNat_ushiftRight, Nat.shiftRight_eq_div_pow, Nat.pow_one]
        have : b.toNat ≠ 0 := fun e => h0 (BitVec.eq_of_toNat_eq e)
        omega
      have hh := half8 b
      have hf' := hf
      rw [timesF, if_neg h0] at hf'
      by_cases ho : b.toNat % 2 = 1
      · have hm : (n8 b).tmod 2 = 1 := by rw [odd8, ho]; rfl
        rw [if_pos ho] at hf'
        go_wp2_with (go_at_call 42; refine (twice_any _ _).mono ?_; rintro e w' ⟨rfl, rfl⟩)
        go_roundw
        case rel => exact ⟨m, twiceR a, b >>> 1, o ^^^ a, rfl, by rw [n8mod], rfl, hsh, hf', trivial⟩
        case measure => rw [n8mod]; show (n8 (b >>> 1)).toNat < (n8 b).toNat; rw [n8_nat, n8_nat]; exact hlt
      · have hm : (n8 b).tmod 2 = 0 := by rw [odd8, show b.toNat % 2 = 0 by omega]; rfl
        rw [if_neg ho] at hf'
        go_wp2_with (go_at_call 42; refine (twice_any _ _).mono ?_; rintro e w' ⟨rfl, rfl⟩)
        go_roundw
        case rel => exact ⟨m, twiceR a, b >>> 1, o, rfl, by rw [n8mod], rfl, hsh, hf', trivial⟩
        case measure => rw [n8mod]; show (n8 (b >>> 1)).toNat < (n8 b).toNat; rw [n8_nat, n8_nat]; exact hlt
end Go.Proofs.Ytoocglckhphepaa
