/-
  THE CALLS OF PACKAGE packet, THIRD PART: Bytes, Whole; what the statements ask of a short header.
-/
import Derived.Test.YtcgbhcmgddgheaaDoorPackB
import Derived.Test.YtcgbhcmgddgheaaDoorVlqD
namespace Go.Proofs.YtcgbhcmgddgheaaDoor
open Go Go.RowKit Go.BigFrame
theorem ret_pair {a b : Int} (h : a = b) : Ending.returned (.tuple #[.int .i64 a, .int .i64 0]) = .returned (.tuple #[.int .i64 b, .int .i64 0]) := by rw [h]
theorem bytesAre_own {B n : Nat} {v : Value} {f : Nat → BitVec 8} {w : World} (h : Own B v n f w) : BytesAre v (strOf f n) w := fun w1 hb => by
  have h1 := h.later hb
  by_cases h0 : n = 0
  · subst h0
    rcases h1.row.2 with ⟨rfl, _⟩ | ⟨g, cap, cur, rfl, _⟩
    · have e : strOf f 0 = ⟨#[]⟩ := by simp [strOf, strL]
      rw [e]
      exact (bytesAre_nil w1).now
    · exact conv_str f g 0 0 cap w1 (fun i hi => by omega)
  · obtain ⟨g, cap, rfl, _, _, _, _, hc⟩ := own_slice (by omega) h1.row
    exact conv_str f g 0 n cap w1 (fun i hi => by rw [Nat.zero_add]; exact hc i hi)

set_option maxHeartbeats 4000000 in
theorem bytes_1 (n a : Int) (ha : -1 ≤ a) (hn : n ≤ 4611686018427387903) (hhi : n - a < 128) (hlt : a < n) (w : World) :
    Calls Tryd.prog 40 #[.int .i64 n, .int .i64 a] w fun e w' => e = .returned (.tuple #[.int .i64 1, .int .i64 0]) ∧ w = w' := by
  have hna : ¬ n ≤ a := by omega
  have hn0 : 0 ≤ n := by omega
  go_enter Tryd.func40, Tryd.ntmps40
  go_wp2_with fail
  refine wp_loop_rounds 2 ?_
  repeat (rw [rounds_succ]; go_wp2_with fail)
  go_ret2
  exact ⟨rfl, rfl⟩
set_option maxHeartbeats 4000000 in
theorem whole_1 (N E : Int) (h0 : 0 ≤ E) (h1 : E ≤ N) (h2 : N - E < 128) (h3 : N ≤ 4611686018427387903) (w : World) :
    Calls Tryd.prog 41 #[.int .i64 (N % 256), .int .i64 1, .int .i64 E] w fun e w' => e = .returned (.tuple #[.int .i64 N, .int .i64 0]) ∧ w = w' := by
  have hN : 0 ≤ N := by omega
  have hq : E / 256 = N / 256 ∨ E / 256 + 1 = N / 256 := by omega
  rcases hq with hq | hq
  all_goals
    go_enter Tryd.func41, Tryd.ntmps41
    go_wp2_with (go_at_call 66; refine (within_yes _ _ (by omega) (by omega) _).mono ?_; rintro e w' ⟨rfl, rfl⟩)
    go_ret2
    exact ⟨ret_pair (by omega), rfl⟩

set_option maxHeartbeats 4000000 in
theorem bytes_2 (n a : Int) (ha : -1 ≤ a) (hn : n ≤ 4611686018427387903) (hlo : 128 ≤ n - a) (hhi : n - a < 32768) (w : World) :
    Calls Tryd.prog 40 #[.int .i64 n, .int .i64 a] w fun e w' => e = .returned (.tuple #[.int .i64 2, .int .i64 0]) ∧ w = w' := by
  have hna : ¬ n ≤ a := by omega
  have hn0 : 0 ≤ n := by omega
  go_enter Tryd.func40, Tryd.ntmps40
  go_wp2_with fail
  refine wp_loop_rounds 3 ?_
  repeat (rw [rounds_succ]; go_wp2_with fail)
  go_ret2
  exact ⟨rfl, rfl⟩
set_option maxHeartbeats 4000000 in
theorem whole_2 (N E : Int) (h0 : 0 ≤ E) (h1 : E ≤ N) (h2 : N - E < 32768) (h3 : N ≤ 4611686018427387903) (w : World) :
    Calls Tryd.prog 41 #[.int .i64 (N % 65536), .int .i64 2, .int .i64 E] w fun e w' => e = .returned (.tuple #[.int .i64 N, .int .i64 0]) ∧ w = w' := by
  have hN : 0 ≤ N := by omega
  have hq : E / 65536 = N / 65536 ∨ E / 65536 + 1 = N / 65536 := by omega
  rcases hq with hq | hq
  all_goals
    go_enter Tryd.func41, Tryd.ntmps41
    go_wp2_with (go_at_call 66; refine (within_yes _ _ (by omega) (by omega) _).mono ?_; rintro e w' ⟨rfl, rfl⟩)
    go_ret2
    exact ⟨ret_pair (by omega), rfl⟩

set_option maxHeartbeats 4000000 in
theorem bytes_3 (n a : Int) (ha : -1 ≤ a) (hn : n ≤ 4611686018427387903) (hlo : 32768 ≤ n - a) (hhi : n - a < 8388608) (w : World) :
    Calls Tryd.prog 40 #[.int .i64 n, .int .i64 a] w fun e w' => e = .returned (.tuple #[.int .i64 3, .int .i64 0]) ∧ w = w' := by
  have hna : ¬ n ≤ a := by omega
  have hn0 : 0 ≤ n := by omega
  go_enter Tryd.func40, Tryd.ntmps40
  go_wp2_with fail
  refine wp_loop_rounds 4 ?_
  repeat (rw [rounds_succ]; go_wp2_with fail)
  go_ret2
  exact ⟨rfl, rfl⟩
set_option maxHeartbeats 4000000 in
theorem whole_3 (N E : Int) (h0 : 0 ≤ E) (h1 : E ≤ N) (h2 : N - E < 8388608) (h3 : N ≤ 4611686018427387903) (w : World) :
    Calls Tryd.prog 41 #[.int .i64 (N % 16777216), .int .i64 3, .int .i64 E] w fun e w' => e = .returned (.tuple #[.int .i64 N, .int .i64 0]) ∧ w = w' := by
  have hN : 0 ≤ N := by omega
  have hq : E / 16777216 = N / 16777216 ∨ E / 16777216 + 1 = N / 16777216 := by omega
  rcases hq with hq | hq
  all_goals
    go_enter Tryd.func41, Tryd.ntmps41
    go_wp2_with (go_at_call 66; refine (within_yes _ _ (by omega) (by omega) _).mono ?_; rintro e w' ⟨rfl, rfl⟩)
    go_ret2
    exact ⟨ret_pair (by omega), rfl⟩

set_option maxHeartbeats 4000000 in
theorem bytes_4 (n a : Int) (ha : -1 ≤ a) (hn : n ≤ 4611686018427387903) (hlo : 8388608 ≤ n - a) (hhi : n - a < 2147483648) (w : World) :
    Calls Tryd.prog 40 #[.int .i64 n, .int .i64 a] w fun e w' => e = .returned (.tuple #[.int .i64 4, .int .i64 0]) ∧ w = w' := by
  have hna : ¬ n ≤ a := by omega
  have hn0 : 0 ≤ n := by omega
  go_enter Tryd.func40, Tryd.ntmps40
  go_wp2_with fail
  refine wp_loop_rounds 5 ?_
  repeat (rw [rounds_succ]; go_wp2_with fail)
  go_ret2
  exact ⟨rfl, rfl⟩
set_option maxHeartbeats 4000000 in
theorem whole_4 (N E : Int) (h0 : 0 ≤ E) (h1 : E ≤ N) (h2 : N - E < 2147483648) (h3 : N ≤ 4611686018427387903) (w : World) :
    Calls Tryd.prog 41 #[.int .i64 (N % 4294967296), .int .i64 4, .int .i64 E] w fun e w' => e = .returned (.tuple #[.int .i64 N, .int .i64 0]) ∧ w = w' := by
  have hN : 0 ≤ N := by omega
  have hq : E / 4294967296 = N / 4294967296 ∨ E / 4294967296 + 1 = N / 4294967296 := by omega
  rcases hq with hq | hq
  all_goals
    go_enter Tryd.func41, Tryd.ntmps41
    go_wp2_with (go_at_call 66; refine (within_yes _ _ (by omega) (by omega) _).mono ?_; rintro e w' ⟨rfl, rfl⟩)
    go_ret2
    exact ⟨ret_pair (by omega), rfl⟩

set_option maxHeartbeats 4000000 in
theorem wholeC (w : World) : Calls Tryd.prog 41 #[.int .i64 39730, .int .i64 2, .int .i64 2821665003] w fun e w' => e = .returned (.tuple #[.int .i64 2821692210, .int .i64 0]) ∧ w = w' := by
  go_enter Tryd.func41, Tryd.ntmps41
  go_wp2_with (go_at_call 66; refine (within_yes _ _ (by omega) (by omega) _).mono ?_; rintro e w' ⟨rfl, rfl⟩)
  go_ret2
  exact ⟨rfl, rfl⟩
theorem str_four (f : Nat → BitVec 8) (a b c d : BitVec 8) (h0 : f 0 = a) (h1 : f 1 = b) (h2 : f 2 = c) (h3 : f 3 = d) : strOf f 4 = ⟨#[UInt8.ofBitVec a, UInt8.ofBitVec b, UInt8.ofBitVec c, UInt8.ofBitVec d]⟩ := by
  unfold strOf strL
  rw [← h0, ← h1, ← h2, ← h3]
  rfl
set_option maxRecDepth 100000 in
set_option maxHeartbeats 4000000 in
theorem heads_any (w : World) : Calls Tryd.prog 35 #[] w fun e w' => e = .returned (.bool true) ∧ Below w.heap.size w w' := by
  have pc := putC w
  unfold headC at pc
  have PC := Lib.hid pc
  clear pc
  go_enter Tryd.func35, Tryd.ntmps35
  go_wp2_with (refine wpList_run (o := ⟨some 6, .build _ _, _, _, _, _⟩) (v := .agg cellsC) (w' := w) rfl (by kernel_rfl) ?_)
  unfold cellsC
  refine PC.out.mono ?_
  rintro e w1 ⟨v, f, rfl, ho, hb, h0, h1, h2, h3⟩
  have hs := bytesAre_own ho
  rw [str_four f _ _ _ _ h0 h1 h2 h3] at hs
  have S := Lib.hid hs
  have B := Lib.hid hb
  clear ho hb h0 h1 h2 h3 hs
  go_wp2_with fail
  refine (wholeC _).mono ?_
  rintro e w' ⟨rfl, rfl⟩
  have cv := S.out.now
  go_wp2_with fail
  go_ret
  exact ⟨rfl, B.out⟩
end Go.Proofs.YtcgbhcmgddgheaaDoor
