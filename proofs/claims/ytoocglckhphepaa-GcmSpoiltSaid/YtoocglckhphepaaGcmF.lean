/-
  THE CALLS OF PACKAGE gcm, SIXTH PART: whether bytes are the same; whether a box takes a nonce; a new box.
-/
import Derived.Test.YtoocglckhphepaaGcmE
import Derived.Test.YtoocglckhphepaaOwn
namespace Go.Proofs.Ytoocglckhphepaa
open Go Go.RowKit Go.BigFrame
set_option maxRecDepth 100000
set_option linter.unusedSimpArgs false
structure BoxAt (w : World) (p q : Nat) (ks : Nat → BitVec 32) (h : W2) : Prop where
  c0 : w.cell? ⟨p, 0, none⟩ = some (.pointer (some ⟨q, 0, none⟩))
  hh : BoxH w p h
  cip : CipherAt w q ks
theorem BoxAt.later {w w1 : World} {p q : Nat} {ks : Nat → BitVec 32} {h : W2} (b : BoxAt w p q ks h) (hb : Below w.heap.size w w1) : BoxAt w1 p q ks h :=
  ⟨by rw [hb.cell (p := ⟨p, 0, none⟩) b.hh.lt]; exact b.c0, b.hh.later hb, b.cip.later hb⟩
set_option maxHeartbeats 1000000 in
theorem takes_nil (a : Option Addr) (n c : Nat) (w : World) :
    Calls Try.prog 23 #[.pointer none, .slice a n c] w fun e w' => e = .returned (.bool false) ∧ w = w' := by
  go_enter Try.func23, Try.ntmps23
  go_wp2
  go_ret
  exact ⟨rfl, rfl⟩
set_option maxHeartbeats 1000000 in
theorem takes_yes (p q : Nat) (ks : Nat → BitVec 32) (h : W2) (a : Option Addr) (c : Nat) (w : World) (hb : BoxAt w p q ks h) :
    Calls Try.prog 23 #[.pointer (some ⟨p, 0, none⟩), .slice a 12 c] w fun e w' => e = .returned (.bool true) ∧ w = w' := by
  have c0 := hb.c0
  go_enter Try.func23, Try.ntmps23
  go_wp2
  go_ret
  exact ⟨rfl, rfl⟩
set_option maxHeartbeats 1000000 in
theorem takes_no (p q : Nat) (ks : Nat → BitVec 32) (h : W2) (a : Option Addr) (n c : Nat) (w : World) (hb : BoxAt w p q ks h) (hn : n ≠ 12) :
    Calls Try.prog 23 #[.pointer (some ⟨p, 0, none⟩), .slice a n c] w fun e w' => e = .returned (.bool false) ∧ w = w' := by
  have c0 := hb.c0
  have h1 : ((n : Int) != 12) = true := by rw [bne_iff_ne]; omega
  have h2 : ((n : Int) == 12) = false := beq_eq_false_iff_ne.2 (by omega)
  go_enter Try.func23, Try.ntmps23
  go_wp2
  go_ret
  exact ⟨by simp [h2], rfl⟩
theorem n8_eq0 (d : BitVec 8) : (n8 d == 0) = (d == 0#8) := by
  rw [Bool.eq_iff_iff, beq_iff_eq, beq_iff_eq, ← n8_zero, n8_inj]
/-- What bytes differ by, all together. -/
def accD (f g : Nat → BitVec 8) : Nat → BitVec 8
  | 0 => 0#8
  | k + 1 => accD f g k ||| (f k ^^^ g k)
theorem accD_zero (f g : Nat → BitVec 8) (n : Nat) : accD f g n = 0#8 ↔ ∀ i, i < n → f i = g i := by
  induction n with
  | zero => simp [accD]
  | succ n ih =>
    unfold accD
    rw [BitVec.or_eq_zero_iff, ih, BitVec.xor_eq_zero_iff]
    constructor
    · rintro ⟨h1, h2⟩ i hi
      by_cases hin : i = n
      · rw [hin]; exact h2
      · exact h1 i (by omega)
    · intro h
      exact ⟨fun i hi => h i (by omega), h n (by omega)⟩
set_option maxHeartbeats 2000000 in
theorem same_short (a a' : Option Addr) (n m c c' : Nat) (w : World) (hn : n ≠ m) :
    Calls Try.prog 29 #[.slice a n c, .slice a' m c'] w fun e w' => e = .returned (.bool false) ∧ w = w' := by
  have h1 : ((n : Int) != (m : Int)) = true := by rw [bne_iff_ne]; omega
  have h2 : ((n : Int) == (m : Int)) = false := beq_eq_false_iff_ne.2 (by omega)
  have h3 : ¬ n = m := hn
  go_enter Try.func29, Try.ntmps29
  go_wp2
  go_ret
  exact ⟨rfl, rfl⟩
set_option maxHeartbeats 2000000 in
theorem same_any (f g : Nat → BitVec 8) (a a' : Option Addr) (n c c' : Nat) (w : World) (hc : n ≤ maxLen)
    (hx : BytesIn w a n f) (hy : BytesIn w a' n g) :
    Calls Try.prog 29 #[.slice a n c, .slice a' n c'] w fun e w' => e = .returned (.bool (accD f g n == 0#8)) ∧ w = w' := by
  have HX := Lib.hid hx.2
  have HY := Lib.hid hy.2
  have hc' : n ≤ 9223372036854775807 := by unfold maxLen at hc; omega
  clear hx hy hc
  go_enter Try.func29, Try.ntmps29
  go_wp2
  go_loopw [5, 15] (fun s5 s15 wr => ∃ k : Nat, k ≤ n ∧ s15 = .int .i64 (k : Int) ∧ s5 = .int .u8 (n8 (accD f g k)) ∧ wr = w)
    (fun _ s15 _ => n - (intOf s15).toNat)
  case atStart => exact ⟨0, by omega, rfl, by rw [show accD f g 0 = 0#8 from rfl, n8_zero], rfl⟩
  case round =>
    obtain ⟨k, hk, rfl, rfl, rfl⟩ := hrel
    by_cases hkn : k < n
    · have hkI : (k : Int) < (n : Int) := by omega
      rcases HX.out with h0 | ⟨bb, bo, rfl, _, hf⟩
      · omega
      rcases HY.out with h0 | ⟨cb, co, rfl, _, hg⟩
      · omega
      have c0 := hf k hkn
      have c1 := hg k hkn
      have hs : accD f g (k + 1) = accD f g k ||| (f k ^^^ g k) := rfl
      have HS := Lib.hid hs
      clear hs hf hg
      generalize accD f g k = d at *
      go_wp2_with fail
      go_roundw
      case rel =>
        refine ⟨k + 1, by omega, by go_num, by rw [HS.out], ?_⟩
        first | rfl | trivial
      case measure => simp [intOf]; omega
    · obtain rfl : k = n := by omega
      generalize hd : accD f g k = d at *
      have HD := Lib.hid hd
      clear hd
      go_wp2_with fail
      go_ret
      refine ⟨?_, rfl⟩
      show Ending.returned (Value.bool (n8 d == 0)) = _
      rw [HD.out, n8_eq0]
end Go.Proofs.Ytoocglckhphepaa
