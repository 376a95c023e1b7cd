/-
  THE CALLS OF PACKAGE packet, FIRST PART: within, a number's lowest bytes behind bytes.
-/
import Derived.Test.YtcgbhcmgddgheaaDoorOwn
import Derived.Deep.DeepCutAuto
namespace Go.Proofs.YtcgbhcmgddgheaaDoor
open Go Go.RowKit Go.BigFrame
set_option maxHeartbeats 1000000 in
theorem within_yes (n most : Int) (h0 : 0 ≤ n) (h1 : n ≤ most) (w : World) : Calls Tryd.prog 66 #[.int .i64 n, .int .i64 most] w fun e w' => e = .returned (.bool true) ∧ w = w' := by
  go_enter Tryd.func66, Tryd.ntmps66
  go_wp2_with fail
  go_ret
  exact ⟨by first | rfl | simp [h1], rfl⟩
/-- The bytes of N, size many, the highest first. -/
def numB (N : Int) (size i : Nat) : BitVec 8 := BitVec.ofInt 8 (N / 2 ^ (8 * (size - 1 - i)))
theorem numB_at (N : Int) (e : Nat) : N / 2 ^ e % 256 = n8 (BitVec.ofInt 8 (N / 2 ^ e)) := by rw [n8_nat, BitVec.toNat_ofInt]; omega
theorem own_one {B n k : Nat} {v : Value} {f g : Nat → BitVec 8} {w : World} {x : BitVec 8} (h : Own B v (n + k + 1) (joinb (joinb f n g) (n + k) (fun _ => x)) w) (hx : x = g k) : Own B v (n + (k + 1)) (joinb f n g) w :=
  Own.congr (by rw [← Nat.add_assoc]; exact h) (fun i hi => by
    unfold joinb
    by_cases h1 : i < n + k
    · rw [if_pos h1]
    · rw [if_neg h1, if_neg (by omega), hx, show i - n = k by omega])
set_option maxRecDepth 100000 in
set_option maxHeartbeats 4000000 in
theorem appendNumber_any {B n : Nat} {v : Value} {f : Nat → BitVec 8} (N : Int) (size : Nat) (w : World) (h : Own B v n f w) (hs : size ≤ 8) (hn : n ≤ 100000000000000) :
    Calls Tryd.prog 61 #[v, .int .i64 N, .int .i64 (size : Int)] w fun e w' => ∃ v', e = .returned v' ∧ Own B v' (n + size) (joinb f n (numB N size)) w' ∧ GrownV w w' v v' := by
  have H := Lib.hid h
  clear h
  go_enter Tryd.func61, Tryd.ntmps61
  go_wp2_with fail
  go_loopw [0, 7] (fun s0 s7 wr => ∃ j : Nat, j ≤ size ∧ s7 = .int .i64 ((size : Int) - 1 - (j : Int)) ∧ Own B s0 (n + j) (joinb f n (numB N size)) wr ∧ GrownV w wr v s0) (fun _ s7 _ => (intOf s7 + 1).toNat)
  case atStart => exact ⟨0, by omega, by simp, H.out.congr (fun i hi => by simp [joinb, hi]), GrownV.refl _ _⟩
  case round =>
    obtain ⟨j, hj, rfl, ho, hg⟩ := hrel
    have O := Lib.hid ho
    have G := Lib.hid hg
    clear ho hg
    by_cases hlt : j < size
    · obtain ⟨i, hi⟩ : ∃ i : Nat, (size : Int) - 1 - (j : Int) = (i : Int) := ⟨size - 1 - j, by omega⟩
      rw [hi]
      have hi' : size - 1 - j = i := by omega
      have HI := Lib.hid hi'
      have hi8 : i < 8 := by omega
      clear hi hi'
      have e1 := numB_at N (8 * i)
      go_wp2_with (refine wpList_append_bytes (o := ⟨some 21, _, _, _, _, _⟩) rfl _ _ 26 rfl rfl rfl (O.out.alloc _) (src_one_new wr _) ?bd ?_)
      case bd => omega
      intro v' w1 ho hg
      have ho1 := own_one (g := numB N size) ho (by unfold numB; rw [show size - 1 - j = i from HI.out])
      have hg1 := (G.out.trans (GrownV.alloc wr _ _)).trans hg
      have O1 := Lib.hid ho1
      have G1 := Lib.hid hg1
      clear ho hg ho1 hg1 e1 O G
      go_wp2_with fail
      go_roundw
      case rel => exact ⟨j + 1, by omega, by have := HI.out; congr 1; omega, O1.out, G1.out⟩
      case measure => simp [intOf] <;> omega
    · obtain rfl : j = size := by omega
      go_wp2_with fail
      go_ret
      exact ⟨_, rfl, O.out, G.out⟩
end Go.Proofs.YtcgbhcmgddgheaaDoor
