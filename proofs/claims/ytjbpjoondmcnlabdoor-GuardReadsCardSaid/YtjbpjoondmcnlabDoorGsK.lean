/-
  A NUMBER MADE WHOLE: packet's Whole and the document's are one plain function.
-/
import Derived.Test.YtjbpjoondmcnlabDoorGsA
namespace Go.Proofs.YtjbpjoondmcnlabDoor
open Go Go.RowKit Go.BigFrame
set_option linter.unusedSimpArgs false
set_option linter.unusedVariables false
set_option maxRecDepth 100000
/-- The number nearest to E whose rest by W is low. -/
def wholeF (W low E : Int) : Int :=
  if E - E % W + low ≤ E - W / 2 ∧ E - E % W + low + W ≤ 4611686018427387903 then E - E % W + low + W
  else if E + W / 2 < E - E % W + low ∧ W ≤ E - E % W + low then E - E % W + low - W else E - E % W + low
theorem gret_pair {a b : Int} (h : a = b) : Ending.returned (.tuple #[.int .i64 a, .int .i64 0]) = .returned (.tuple #[.int .i64 b, .int .i64 0]) := by rw [h]
theorem gwithin_yes (n most : Int) (h0 : 0 ≤ n) (h1 : n ≤ most) (w : World) : Calls Tryd.prog 54 #[.int .i64 n, .int .i64 most] w fun e w' => e = .returned (.bool true) ∧ w = w' := by
  go_enter Tryd.func54, Tryd.ntmps54
  go_wp2_with fail
  go_ret
  exact ⟨rfl, rfl⟩
set_option maxHeartbeats 8000000 in
theorem gwhole_1 (low E : Int) (l0 : 0 ≤ low) (l1 : low < 256) (h0 : 0 ≤ E) (h1 : E ≤ 4611686018427387903) (w : World) :
    Calls Tryd.prog 38 #[.int .i64 low, .int .i64 1, .int .i64 E] w fun e w' => e = .returned (.tuple #[.int .i64 (wholeF 256 low E), .int .i64 0]) ∧ w = w' := by
  obtain ⟨n, hn⟩ : ∃ n, E - E % 256 + low = n := ⟨_, rfl⟩
  have hn0 : 0 ≤ n ∧ n ≤ 4611686018427387903 := by omega
  have hq : E / 256 * 256 + low = n := by omega
  by_cases p1 : n ≤ E - 128
  · by_cases p2 : n + 256 ≤ 4611686018427387903
    · rw [show wholeF 256 low E = n + 256 by unfold wholeF; rw [hn, if_pos ⟨p1, p2⟩]]
      go_enter Tryd.func38, Tryd.ntmps38
      go_wp2_with (go_at_call 54; refine (gwithin_yes _ _ (by omega) (by omega) _).mono ?_; rintro e w' ⟨rfl, rfl⟩)
      go_ret2
      exact ⟨gret_pair (by omega), rfl⟩
    · rw [show wholeF 256 low E = n by unfold wholeF; rw [hn, if_neg (fun h => p2 h.2), if_neg (fun h => by have := h.1; omega)]]
      go_enter Tryd.func38, Tryd.ntmps38
      go_wp2_with (go_at_call 54; refine (gwithin_yes _ _ (by omega) (by omega) _).mono ?_; rintro e w' ⟨rfl, rfl⟩)
      go_ret2
      exact ⟨gret_pair (by omega), rfl⟩
  · by_cases p3 : E + 128 < n
    · by_cases p4 : 256 ≤ n
      · rw [show wholeF 256 low E = n - 256 by unfold wholeF; rw [hn, if_neg (fun h => p1 h.1), if_pos ⟨p3, p4⟩]]
        go_enter Tryd.func38, Tryd.ntmps38
        go_wp2_with (go_at_call 54; refine (gwithin_yes _ _ (by omega) (by omega) _).mono ?_; rintro e w' ⟨rfl, rfl⟩)
        go_ret2
        exact ⟨gret_pair (by omega), rfl⟩
      · rw [show wholeF 256 low E = n by unfold wholeF; rw [hn, if_neg (fun h => p1 h.1), if_neg (fun h => p4 h.2)]]
        go_enter Tryd.func38, Tryd.ntmps38
        go_wp2_with (go_at_call 54; refine (gwithin_yes _ _ (by omega) (by omega) _).mono ?_; rintro e w' ⟨rfl, rfl⟩)
        go_ret2
        exact ⟨gret_pair (by omega), rfl⟩
    · rw [show wholeF 256 low E = n by unfold wholeF; rw [hn, if_neg (fun h => p1 h.1), if_neg (fun h => p3 h.1)]]
      go_enter Tryd.func38, Tryd.ntmps38
      go_wp2_with (go_at_call 54; refine (gwithin_yes _ _ (by omega) (by omega) _).mono ?_; rintro e w' ⟨rfl, rfl⟩)
      go_ret2
      exact ⟨gret_pair (by omega), rfl⟩
set_option maxHeartbeats 8000000 in
theorem rwhole_1 (low E : Int) (l0 : 0 ≤ low) (l1 : low < 256) (h0 : 0 ≤ E) (h1 : E ≤ 4611686018427387903) (w : World) :
    Calls Tryd.prog 33 #[.int .i64 low, .int .i64 1, .int .i64 E] w fun e w' => e = .returned (.tuple #[.int .i64 (wholeF 256 low E), .int .i64 0]) ∧ w = w' := by
  obtain ⟨n, hn⟩ : ∃ n, E - E % 256 + low = n := ⟨_, rfl⟩
  have hn0 : 0 ≤ n ∧ n ≤ 4611686018427387903 := by omega
  have hq : E / 256 * 256 + low = n := by omega
  by_cases p1 : n ≤ E - 128
  · by_cases p2 : n + 256 ≤ 4611686018427387903
    · rw [show wholeF 256 low E = n + 256 by unfold wholeF; rw [hn, if_pos ⟨p1, p2⟩]]
      go_enter Tryd.func33, Tryd.ntmps33
      go_wp2_with fail
      go_ret2
      exact ⟨gret_pair (by omega), rfl⟩
    · rw [show wholeF 256 low E = n by unfold wholeF; rw [hn, if_neg (fun h => p2 h.2), if_neg (fun h => by have := h.1; omega)]]
      go_enter Tryd.func33, Tryd.ntmps33
      go_wp2_with fail
      go_ret2
      exact ⟨gret_pair (by omega), rfl⟩
  · by_cases p3 : E + 128 < n
    · by_cases p4 : 256 ≤ n
      · rw [show wholeF 256 low E = n - 256 by unfold wholeF; rw [hn, if_neg (fun h => p1 h.1), if_pos ⟨p3, p4⟩]]
        go_enter Tryd.func33, Tryd.ntmps33
        go_wp2_with fail
        go_ret2
        exact ⟨gret_pair (by omega), rfl⟩
      · rw [show wholeF 256 low E = n by unfold wholeF; rw [hn, if_neg (fun h => p1 h.1), if_neg (fun h => p4 h.2)]]
        go_enter Tryd.func33, Tryd.ntmps33
        go_wp2_with fail
        go_ret2
        exact ⟨gret_pair (by omega), rfl⟩
    · rw [show wholeF 256 low E = n by unfold wholeF; rw [hn, if_neg (fun h => p1 h.1), if_neg (fun h => p3 h.1)]]
      go_enter Tryd.func33, Tryd.ntmps33
      go_wp2_with fail
      go_ret2
      exact ⟨gret_pair (by omega), rfl⟩
set_option maxHeartbeats 8000000 in
theorem gwhole_2 (low E : Int) (l0 : 0 ≤ low) (l1 : low < 65536) (h0 : 0 ≤ E) (h1 : E ≤ 4611686018427387903) (w : World) :
    Calls Tryd.prog 38 #[.int .i64 low, .int .i64 2, .int .i64 E] w fun e w' => e = .returned (.tuple #[.int .i64 (wholeF 65536 low E), .int .i64 0]) ∧ w = w' := by
  obtain ⟨n, hn⟩ : ∃ n, E - E % 65536 + low = n := ⟨_, rfl⟩
  have hn0 : 0 ≤ n ∧ n ≤ 4611686018427387903 := by omega
  have hq : E / 65536 * 65536 + low = n := by omega
  by_cases p1 : n ≤ E - 32768
  · by_cases p2 : n + 65536 ≤ 4611686018427387903
    · rw [show wholeF 65536 low E = n + 65536 by unfold wholeF; rw [hn, if_pos ⟨p1, p2⟩]]
      go_enter Tryd.func38, Tryd.ntmps38
      go_wp2_with (go_at_call 54; refine (gwithin_yes _ _ (by omega) (by omega) _).mono ?_; rintro e w' ⟨rfl, rfl⟩)
      go_ret2
      exact ⟨gret_pair (by omega), rfl⟩
    · rw [show wholeF 65536 low E = n by unfold wholeF; rw [hn, if_neg (fun h => p2 h.2), if_neg (fun h => by have := h.1; omega)]]
      go_enter Tryd.func38, Tryd.ntmps38
      go_wp2_with (go_at_call 54; refine (gwithin_yes _ _ (by omega) (by omega) _).mono ?_; rintro e w' ⟨rfl, rfl⟩)
      go_ret2
      exact ⟨gret_pair (by omega), rfl⟩
  · by_cases p3 : E + 32768 < n
    · by_cases p4 : 65536 ≤ n
      · rw [show wholeF 65536 low E = n - 65536 by unfold wholeF; rw [hn, if_neg (fun h => p1 h.1), if_pos ⟨p3, p4⟩]]
        go_enter Tryd.func38, Tryd.ntmps38
        go_wp2_with (go_at_call 54; refine (gwithin_yes _ _ (by omega) (by omega) _).mono ?_; rintro e w' ⟨rfl, rfl⟩)
        go_ret2
        exact ⟨gret_pair (by omega), rfl⟩
      · rw [show wholeF 65536 low E = n by unfold wholeF; rw [hn, if_neg (fun h => p1 h.1), if_neg (fun h => p4 h.2)]]
        go_enter Tryd.func38, Tryd.ntmps38
        go_wp2_with (go_at_call 54; refine (gwithin_yes _ _ (by omega) (by omega) _).mono ?_; rintro e w' ⟨rfl, rfl⟩)
        go_ret2
        exact ⟨gret_pair (by omega), rfl⟩
    · rw [show wholeF 65536 low E = n by unfold wholeF; rw [hn, if_neg (fun h => p1 h.1), if_neg (fun h => p3 h.1)]]
      go_enter Tryd.func38, Tryd.ntmps38
      go_wp2_with (go_at_call 54; refine (gwithin_yes _ _ (by omega) (by omega) _).mono ?_; rintro e w' ⟨rfl, rfl⟩)
      go_ret2
      exact ⟨gret_pair (by omega), rfl⟩
set_option maxHeartbeats 8000000 in
theorem rwhole_2 (low E : Int) (l0 : 0 ≤ low) (l1 : low < 65536) (h0 : 0 ≤ E) (h1 : E ≤ 4611686018427387903) (w : World) :
    Calls Tryd.prog 33 #[.int .i64 low, .int .i64 2, .int .i64 E] w fun e w' => e = .returned (.tuple #[.int .i64 (wholeF 65536 low E), .int .i64 0]) ∧ w = w' := by
  obtain ⟨n, hn⟩ : ∃ n, E - E % 65536 + low = n := ⟨_, rfl⟩
  have hn0 : 0 ≤ n ∧ n ≤ 4611686018427387903 := by omega
  have hq : E / 65536 * 65536 + low = n := by omega
  by_cases p1 : n ≤ E - 32768
  · by_cases p2 : n + 65536 ≤ 4611686018427387903
    · rw [show wholeF 65536 low E = n + 65536 by unfold wholeF; rw [hn, if_pos ⟨p1, p2⟩]]
      go_enter Tryd.func33, Tryd.ntmps33
      go_wp2_with fail
      go_ret2
      exact ⟨gret_pair (by omega), rfl⟩
    · rw [show wholeF 65536 low E = n by unfold wholeF; rw [hn, if_neg (fun h => p2 h.2), if_neg (fun h => by have := h.1; omega)]]
      go_enter Tryd.func33, Tryd.ntmps33
      go_wp2_with fail
      go_ret2
      exact ⟨gret_pair (by omega), rfl⟩
  · by_cases p3 : E + 32768 < n
    · by_cases p4 : 65536 ≤ n
      · rw [show wholeF 65536 low E = n - 65536 by unfold wholeF; rw [hn, if_neg (fun h => p1 h.1), if_pos ⟨p3, p4⟩]]
        go_enter Tryd.func33, Tryd.ntmps33
        go_wp2_with fail
        go_ret2
        exact ⟨gret_pair (by omega), rfl⟩
      · rw [show wholeF 65536 low E = n by unfold wholeF; rw [hn, if_neg (fun h => p1 h.1), if_neg (fun h => p4 h.2)]]
        go_enter Tryd.func33, Tryd.ntmps33
        go_wp2_with fail
        go_ret2
        exact ⟨gret_pair (by omega), rfl⟩
    · rw [show wholeF 65536 low E = n by unfold wholeF; rw [hn, if_neg (fun h => p1 h.1), if_neg (fun h => p3 h.1)]]
      go_enter Tryd.func33, Tryd.ntmps33
      go_wp2_with fail
      go_ret2
      exact ⟨gret_pair (by omega), rfl⟩
set_option maxHeartbeats 8000000 in
theorem gwhole_3 (low E : Int) (l0 : 0 ≤ low) (l1 : low < 16777216) (h0 : 0 ≤ E) (h1 : E ≤ 4611686018427387903) (w : World) :
    Calls Tryd.prog 38 #[.int .i64 low, .int .i64 3, .int .i64 E] w fun e w' => e = .returned (.tuple #[.int .i64 (wholeF 16777216 low E), .int .i64 0]) ∧ w = w' := by
  obtain ⟨n, hn⟩ : ∃ n, E - E % 16777216 + low = n := ⟨_, rfl⟩
  have hn0 : 0 ≤ n ∧ n ≤ 4611686018427387903 := by omega
  have hq : E / 16777216 * 16777216 + low = n := by omega
  by_cases p1 : n ≤ E - 8388608
  · by_cases p2 : n + 16777216 ≤ 4611686018427387903
    · rw [show wholeF 16777216 low E = n + 16777216 by unfold wholeF; rw [hn, if_pos ⟨p1, p2⟩]]
      go_enter Tryd.func38, Tryd.ntmps38
      go_wp2_with (go_at_call 54; refine (gwithin_yes _ _ (by omega) (by omega) _).mono ?_; rintro e w' ⟨rfl, rfl⟩)
      go_ret2
      exact ⟨gret_pair (by omega), rfl⟩
    · rw [show wholeF 16777216 low E = n by unfold wholeF; rw [hn, if_neg (fun h => p2 h.2), if_neg (fun h => by have := h.1; omega)]]
      go_enter Tryd.func38, Tryd.ntmps38
      go_wp2_with (go_at_call 54; refine (gwithin_yes _ _ (by omega) (by omega) _).mono ?_; rintro e w' ⟨rfl, rfl⟩)
      go_ret2
      exact ⟨gret_pair (by omega), rfl⟩
  · by_cases p3 : E + 8388608 < n
    · by_cases p4 : 16777216 ≤ n
      · rw [show wholeF 16777216 low E = n - 16777216 by unfold wholeF; rw [hn, if_neg (fun h => p1 h.1), if_pos ⟨p3, p4⟩]]
        go_enter Tryd.func38, Tryd.ntmps38
        go_wp2_with (go_at_call 54; refine (gwithin_yes _ _ (by omega) (by omega) _).mono ?_; rintro e w' ⟨rfl, rfl⟩)
        go_ret2
        exact ⟨gret_pair (by omega), rfl⟩
      · rw [show wholeF 16777216 low E = n by unfold wholeF; rw [hn, if_neg (fun h => p1 h.1), if_neg (fun h => p4 h.2)]]
        go_enter Tryd.func38, Tryd.ntmps38
        go_wp2_with (go_at_call 54; refine (gwithin_yes _ _ (by omega) (by omega) _).mono ?_; rintro e w' ⟨rfl, rfl⟩)
        go_ret2
        exact ⟨gret_pair (by omega), rfl⟩
    · rw [show wholeF 16777216 low E = n by unfold wholeF; rw [hn, if_neg (fun h => p1 h.1), if_neg (fun h => p3 h.1)]]
      go_enter Tryd.func38, Tryd.ntmps38
      go_wp2_with (go_at_call 54; refine (gwithin_yes _ _ (by omega) (by omega) _).mono ?_; rintro e w' ⟨rfl, rfl⟩)
      go_ret2
      exact ⟨gret_pair (by omega), rfl⟩
set_option maxHeartbeats 8000000 in
theorem rwhole_3 (low E : Int) (l0 : 0 ≤ low) (l1 : low < 16777216) (h0 : 0 ≤ E) (h1 : E ≤ 4611686018427387903) (w : World) :
    Calls Tryd.prog 33 #[.int .i64 low, .int .i64 3, .int .i64 E] w fun e w' => e = .returned (.tuple #[.int .i64 (wholeF 16777216 low E), .int .i64 0]) ∧ w = w' := by
  obtain ⟨n, hn⟩ : ∃ n, E - E % 16777216 + low = n := ⟨_, rfl⟩
  have hn0 : 0 ≤ n ∧ n ≤ 4611686018427387903 := by omega
  have hq : E / 16777216 * 16777216 + low = n := by omega
  by_cases p1 : n ≤ E - 8388608
  · by_cases p2 : n + 16777216 ≤ 4611686018427387903
    · rw [show wholeF 16777216 low E = n + 16777216 by unfold wholeF; rw [hn, if_pos ⟨p1, p2⟩]]
      go_enter Tryd.func33, Tryd.ntmps33
      go_wp2_with fail
      go_ret2
      exact ⟨gret_pair (by omega), rfl⟩
    · rw [show wholeF 16777216 low E = n by unfold wholeF; rw [hn, if_neg (fun h => p2 h.2), if_neg (fun h => by have := h.1; omega)]]
      go_enter Tryd.func33, Tryd.ntmps33
      go_wp2_with fail
      go_ret2
      exact ⟨gret_pair (by omega), rfl⟩
  · by_cases p3 : E + 8388608 < n
    · by_cases p4 : 16777216 ≤ n
      · rw [show wholeF 16777216 low E = n - 16777216 by unfold wholeF; rw [hn, if_neg (fun h => p1 h.1), if_pos ⟨p3, p4⟩]]
        go_enter Tryd.func33, Tryd.ntmps33
        go_wp2_with fail
        go_ret2
        exact ⟨gret_pair (by omega), rfl⟩
      · rw [show wholeF 16777216 low E = n by unfold wholeF; rw [hn, if_neg (fun h => p1 h.1), if_neg (fun h => p4 h.2)]]
        go_enter Tryd.func33, Tryd.ntmps33
        go_wp2_with fail
        go_ret2
        exact ⟨gret_pair (by omega), rfl⟩
    · rw [show wholeF 16777216 low E = n by unfold wholeF; rw [hn, if_neg (fun h => p1 h.1), if_neg (fun h => p3 h.1)]]
      go_enter Tryd.func33, Tryd.ntmps33
      go_wp2_with fail
      go_ret2
      exact ⟨gret_pair (by omega), rfl⟩
set_option maxHeartbeats 8000000 in
theorem gwhole_4 (low E : Int) (l0 : 0 ≤ low) (l1 : low < 4294967296) (h0 : 0 ≤ E) (h1 : E ≤ 4611686018427387903) (w : World) :
    Calls Tryd.prog 38 #[.int .i64 low, .int .i64 4, .int .i64 E] w fun e w' => e = .returned (.tuple #[.int .i64 (wholeF 4294967296 low E), .int .i64 0]) ∧ w = w' := by
  obtain ⟨n, hn⟩ : ∃ n, E - E % 4294967296 + low = n := ⟨_, rfl⟩
  have hn0 : 0 ≤ n ∧ n ≤ 4611686018427387903 := by omega
  have hq : E / 4294967296 * 4294967296 + low = n := by omega
  by_cases p1 : n ≤ E - 2147483648
  · by_cases p2 : n + 4294967296 ≤ 4611686018427387903
    · rw [show wholeF 4294967296 low E = n + 4294967296 by unfold wholeF; rw [hn, if_pos ⟨p1, p2⟩]]
      go_enter Tryd.func38, Tryd.ntmps38
      go_wp2_with (go_at_call 54; refine (gwithin_yes _ _ (by omega) (by omega) _).mono ?_; rintro e w' ⟨rfl, rfl⟩)
      go_ret2
      exact ⟨gret_pair (by omega), rfl⟩
    · rw [show wholeF 4294967296 low E = n by unfold wholeF; rw [hn, if_neg (fun h => p2 h.2), if_neg (fun h => by have := h.1; omega)]]
      go_enter Tryd.func38, Tryd.ntmps38
      go_wp2_with (go_at_call 54; refine (gwithin_yes _ _ (by omega) (by omega) _).mono ?_; rintro e w' ⟨rfl, rfl⟩)
      go_ret2
      exact ⟨gret_pair (by omega), rfl⟩
  · by_cases p3 : E + 2147483648 < n
    · by_cases p4 : 4294967296 ≤ n
      · rw [show wholeF 4294967296 low E = n - 4294967296 by unfold wholeF; rw [hn, if_neg (fun h => p1 h.1), if_pos ⟨p3, p4⟩]]
        go_enter Tryd.func38, Tryd.ntmps38
        go_wp2_with (go_at_call 54; refine (gwithin_yes _ _ (by omega) (by omega) _).mono ?_; rintro e w' ⟨rfl, rfl⟩)
        go_ret2
        exact ⟨gret_pair (by omega), rfl⟩
      · rw [show wholeF 4294967296 low E = n by unfold wholeF; rw [hn, if_neg (fun h => p1 h.1), if_neg (fun h => p4 h.2)]]
        go_enter Tryd.func38, Tryd.ntmps38
        go_wp2_with (go_at_call 54; refine (gwithin_yes _ _ (by omega) (by omega) _).mono ?_; rintro e w' ⟨rfl, rfl⟩)
        go_ret2
        exact ⟨gret_pair (by omega), rfl⟩
    · rw [show wholeF 4294967296 low E = n by unfold wholeF; rw [hn, if_neg (fun h => p1 h.1), if_neg (fun h => p3 h.1)]]
      go_enter Tryd.func38, Tryd.ntmps38
      go_wp2_with (go_at_call 54; refine (gwithin_yes _ _ (by omega) (by omega) _).mono ?_; rintro e w' ⟨rfl, rfl⟩)
      go_ret2
      exact ⟨gret_pair (by omega), rfl⟩
set_option maxHeartbeats 8000000 in
theorem rwhole_4 (low E : Int) (l0 : 0 ≤ low) (l1 : low < 4294967296) (h0 : 0 ≤ E) (h1 : E ≤ 4611686018427387903) (w : World) :
    Calls Tryd.prog 33 #[.int .i64 low, .int .i64 4, .int .i64 E] w fun e w' => e = .returned (.tuple #[.int .i64 (wholeF 4294967296 low E), .int .i64 0]) ∧ w = w' := by
  obtain ⟨n, hn⟩ : ∃ n, E - E % 4294967296 + low = n := ⟨_, rfl⟩
  have hn0 : 0 ≤ n ∧ n ≤ 4611686018427387903 := by omega
  have hq : E / 4294967296 * 4294967296 + low = n := by omega
  by_cases p1 : n ≤ E - 2147483648
  · by_cases p2 : n + 4294967296 ≤ 4611686018427387903
    · rw [show wholeF 4294967296 low E = n + 4294967296 by unfold wholeF; rw [hn, if_pos ⟨p1, p2⟩]]
      go_enter Tryd.func33, Tryd.ntmps33
      go_wp2_with fail
      go_ret2
      exact ⟨gret_pair (by omega), rfl⟩
    · rw [show wholeF 4294967296 low E = n by unfold wholeF; rw [hn, if_neg (fun h => p2 h.2), if_neg (fun h => by have := h.1; omega)]]
      go_enter Tryd.func33, Tryd.ntmps33
      go_wp2_with fail
      go_ret2
      exact ⟨gret_pair (by omega), rfl⟩
  · by_cases p3 : E + 2147483648 < n
    · by_cases p4 : 4294967296 ≤ n
      · rw [show wholeF 4294967296 low E = n - 4294967296 by unfold wholeF; rw [hn, if_neg (fun h => p1 h.1), if_pos ⟨p3, p4⟩]]
        go_enter Tryd.func33, Tryd.ntmps33
        go_wp2_with fail
        go_ret2
        exact ⟨gret_pair (by omega), rfl⟩
      · rw [show wholeF 4294967296 low E = n by unfold wholeF; rw [hn, if_neg (fun h => p1 h.1), if_neg (fun h => p4 h.2)]]
        go_enter Tryd.func33, Tryd.ntmps33
        go_wp2_with fail
        go_ret2
        exact ⟨gret_pair (by omega), rfl⟩
    · rw [show wholeF 4294967296 low E = n by unfold wholeF; rw [hn, if_neg (fun h => p1 h.1), if_neg (fun h => p3 h.1)]]
      go_enter Tryd.func33, Tryd.ntmps33
      go_wp2_with fail
      go_ret2
      exact ⟨gret_pair (by omega), rfl⟩
theorem gwhole_any (s : Nat) (hs1 : 1 ≤ s) (hs4 : s ≤ 4) (low E : Int) (l0 : 0 ≤ low) (l1 : low < 256 ^ s) (h0 : 0 ≤ E) (h1 : E ≤ 4611686018427387903) (w : World) :
    Calls Tryd.prog 38 #[.int .i64 low, .int .i64 (s : Int), .int .i64 E] w fun e w' => e = .returned (.tuple #[.int .i64 (wholeF (256 ^ s) low E), .int .i64 0]) ∧ w = w' := by
  obtain rfl | rfl | rfl | rfl : s = 1 ∨ s = 2 ∨ s = 3 ∨ s = 4 := by omega
  · exact gwhole_1 low E l0 (by omega) h0 h1 w
  · exact gwhole_2 low E l0 (by omega) h0 h1 w
  · exact gwhole_3 low E l0 (by omega) h0 h1 w
  · exact gwhole_4 low E l0 (by omega) h0 h1 w
theorem rwhole_any (s : Nat) (hs1 : 1 ≤ s) (hs4 : s ≤ 4) (low E : Int) (l0 : 0 ≤ low) (l1 : low < 256 ^ s) (h0 : 0 ≤ E) (h1 : E ≤ 4611686018427387903) (w : World) :
    Calls Tryd.prog 33 #[.int .i64 low, .int .i64 (s : Int), .int .i64 E] w fun e w' => e = .returned (.tuple #[.int .i64 (wholeF (256 ^ s) low E), .int .i64 0]) ∧ w = w' := by
  obtain rfl | rfl | rfl | rfl : s = 1 ∨ s = 2 ∨ s = 3 ∨ s = 4 := by omega
  · exact rwhole_1 low E l0 (by omega) h0 h1 w
  · exact rwhole_2 low E l0 (by omega) h0 h1 w
  · exact rwhole_3 low E l0 (by omega) h0 h1 w
  · exact rwhole_4 low E l0 (by omega) h0 h1 w
end Go.Proofs.YtjbpjoondmcnlabDoor
