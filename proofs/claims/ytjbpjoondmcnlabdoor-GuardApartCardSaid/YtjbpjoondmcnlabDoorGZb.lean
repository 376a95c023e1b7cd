/-
  A NUMBER MADE WHOLE: packet's Whole and the document's are one plain function.
  guard's laws: a pack's head.
  GuardSeals: the program's Seal and the document's, one behind the other.
  GuardSeals: a pack as a law's parameter; two operations that make memory, in either order.
  TWO OPERATIONS THAT MAKE MEMORY, IN EITHER ORDER, WITH ONE ROAD BEHIND THEM.
  GUARD's Open, the program's and the document's, where they refuse at once.
  GUARD's Open of bytes that are long enough: the program's.
  GUARD's Open of bytes that are long enough: the program's.
  GUARD's Open of bytes that are long enough: the document's.
  GuardReads: the program's Open and the document's, one behind the other; keys, bytes, a place and a number that came in.
  WHAT WAS SEALED IS OPENED (plain mathematics): a packet's first byte, number and body, as Open reads them.
  GuardBacks: a key whose H is nought tells so by two seals that are the same.
  GUARD's Seal: an error, or a packet of parts that are known.
  GuardBacks, of parts that are known.
  A TURN THAT CAME IN.
-/
import Derived.Test.YtjbpjoondmcnlabDoorGZa
import Derived.Test.YtjbpjoondmcnlabDoorMg07
import Derived.Test.YtjbpjoondmcnlabDoorGcmY
import Derived.Test.YtjbpjoondmcnlabDoorMg27
import Derived.Test.YtjbpjoondmcnlabDoorMg24
namespace Go.Proofs.YtjbpjoondmcnlabDoor
open Go Go.RowKit Go.BigFrame
set_option linter.unusedSimpArgs false
set_option linter.unusedVariables false
set_option maxRecDepth 100000
/-- The number nearest to E whose rest by W is low. -/
def wholeF (W low E : Int) : Int :=
  if E - E % W + low ≤ E - W / 2 ∧ E - E % W + low + W ≤ 4611686018427387903 then E - E % W + low + W
  else if E + W / 2 < E - E % W + low ∧ W ≤ E - E % W + low then E - E % W + low - W else E - E % W + low
theorem gret_pair {a b : Int} (h : a = b) : Ending.returned (.tuple #[.int .i64 a, .int .i64 0]) = .returned (.tuple #[.int .i64 b, .int .i64 0]) := by rw [h]
theorem gwithin_yes (n most : Int) (h0 : 0 ≤ n) (h1 : n ≤ most) (w : World) : Calls Tryd.prog 54 #[.int .i64 n, .int .i64 most] w fun e w' => e = .returned (.bool true) ∧ w = w' := by
  go_enter Tryd.func54, Tryd.ntmps54
  go_wp2_with fail
  go_ret
  exact ⟨rfl, rfl⟩
set_option maxHeartbeats 8000000 in
theorem gwhole_1 (low E : Int) (l0 : 0 ≤ low) (l1 : low < 256) (h0 : 0 ≤ E) (h1 : E ≤ 4611686018427387903) (w : World) :
    Calls Tryd.prog 38 #[.int .i64 low, .int .i64 1, .int .i64 E] w fun e w' => e = .returned (.tuple #[.int .i64 (wholeF 256 low E), .int .i64 0]) ∧ w = w' := by
  obtain ⟨n, hn⟩ : ∃ n, E - E % 256 + low = n := ⟨_, rfl⟩
  have hn0 : 0 ≤ n ∧ n ≤ 4611686018427387903 := by omega
  have hq : E / 256 * 256 + low = n := by omega
  by_cases p1 : n ≤ E - 128
  · by_cases p2 : n + 256 ≤ 4611686018427387903
    · rw [show wholeF 256 low E = n + 256 by unfold wholeF; rw [hn, if_pos ⟨p1, p2⟩]]
      go_enter Tryd.func38, Tryd.ntmps38
      go_wp2_with (go_at_call 54; refine (gwithin_yes _ _ (by omega) (by omega) _).mono ?_; rintro e w' ⟨rfl, rfl⟩)
      go_ret2
      exact ⟨gret_pair (by omega), rfl⟩
    · rw [show wholeF 256 low E = n by unfold wholeF; rw [hn, if_neg (fun h => p2 h.2), if_neg (fun h => by have := h.1; omega)]]
      go_enter Tryd.func38, Tryd.ntmps38
      go_wp2_with (go_at_call 54; refine (gwithin_yes _ _ (by omega) (by omega) _).mono ?_; rintro e w' ⟨rfl, rfl⟩)
      go_ret2
      exact ⟨gret_pair (by omega), rfl⟩
  · by_cases p3 : E + 128 < n
    · by_cases p4 : 256 ≤ n
      · rw [show wholeF 256 low E = n - 256 by unfold wholeF; rw [hn, if_neg (fun h => p1 h.1), if_pos ⟨p3, p4⟩]]
        go_enter Tryd.func38, Tryd.ntmps38
        go_wp2_with (go_at_call 54; refine (gwithin_yes _ _ (by omega) (by omega) _).mono ?_; rintro e w' ⟨rfl, rfl⟩)
        go_ret2
        exact ⟨gret_pair (by omega), rfl⟩
      · rw [show wholeF 256 low E = n by unfold wholeF; rw [hn, if_neg (fun h => p1 h.1), if_neg (fun h => p4 h.2)]]
        go_enter Tryd.func38, Tryd.ntmps38
        go_wp2_with (go_at_call 54; refine (gwithin_yes _ _ (by omega) (by omega) _).mono ?_; rintro e w' ⟨rfl, rfl⟩)
        go_ret2
        exact ⟨gret_pair (by omega), rfl⟩
    · rw [show wholeF 256 low E = n by unfold wholeF; rw [hn, if_neg (fun h => p1 h.1), if_neg (fun h => p3 h.1)]]
      go_enter Tryd.func38, Tryd.ntmps38
      go_wp2_with (go_at_call 54; refine (gwithin_yes _ _ (by omega) (by omega) _).mono ?_; rintro e w' ⟨rfl, rfl⟩)
      go_ret2
      exact ⟨gret_pair (by omega), rfl⟩
set_option maxHeartbeats 8000000 in
theorem rwhole_1 (low E : Int) (l0 : 0 ≤ low) (l1 : low < 256) (h0 : 0 ≤ E) (h1 : E ≤ 4611686018427387903) (w : World) :
    Calls Tryd.prog 33 #[.int .i64 low, .int .i64 1, .int .i64 E] w fun e w' => e = .returned (.tuple #[.int .i64 (wholeF 256 low E), .int .i64 0]) ∧ w = w' := by
  obtain ⟨n, hn⟩ : ∃ n, E - E % 256 + low = n := ⟨_, rfl⟩
  have hn0 : 0 ≤ n ∧ n ≤ 4611686018427387903 := by omega
  have hq : E / 256 * 256 + low = n := by omega
  by_cases p1 : n ≤ E - 128
  · by_cases p2 : n + 256 ≤ 4611686018427387903
    · rw [show wholeF 256 low E = n + 256 by unfold wholeF; rw [hn, if_pos ⟨p1, p2⟩]]
      go_enter Tryd.func33, Tryd.ntmps33
      go_wp2_with fail
      go_ret2
      exact ⟨gret_pair (by omega), rfl⟩
    · rw [show wholeF 256 low E = n by unfold wholeF; rw [hn, if_neg (fun h => p2 h.2), if_neg (fun h => by have := h.1; omega)]]
      go_enter Tryd.func33, Tryd.ntmps33
      go_wp2_with fail
      go_ret2
      exact ⟨gret_pair (by omega), rfl⟩
  · by_cases p3 : E + 128 < n
    · by_cases p4 : 256 ≤ n
      · rw [show wholeF 256 low E = n - 256 by unfold wholeF; rw [hn, if_neg (fun h => p1 h.1), if_pos ⟨p3, p4⟩]]
        go_enter Tryd.func33, Tryd.ntmps33
        go_wp2_with fail
        go_ret2
        exact ⟨gret_pair (by omega), rfl⟩
      · rw [show wholeF 256 low E = n by unfold wholeF; rw [hn, if_neg (fun h => p1 h.1), if_neg (fun h => p4 h.2)]]
        go_enter Tryd.func33, Tryd.ntmps33
        go_wp2_with fail
        go_ret2
        exact ⟨gret_pair (by omega), rfl⟩
    · rw [show wholeF 256 low E = n by unfold wholeF; rw [hn, if_neg (fun h => p1 h.1), if_neg (fun h => p3 h.1)]]
      go_enter Tryd.func33, Tryd.ntmps33
      go_wp2_with fail
      go_ret2
      exact ⟨gret_pair (by omega), rfl⟩
set_option maxHeartbeats 8000000 in
theorem gwhole_2 (low E : Int) (l0 : 0 ≤ low) (l1 : low < 65536) (h0 : 0 ≤ E) (h1 : E ≤ 4611686018427387903) (w : World) :
    Calls Tryd.prog 38 #[.int .i64 low, .int .i64 2, .int .i64 E] w fun e w' => e = .returned (.tuple #[.int .i64 (wholeF 65536 low E), .int .i64 0]) ∧ w = w' := by
  obtain ⟨n, hn⟩ : ∃ n, E - E % 65536 + low = n := ⟨_, rfl⟩
  have hn0 : 0 ≤ n ∧ n ≤ 4611686018427387903 := by omega
  have hq : E / 65536 * 65536 + low = n := by omega
  by_cases p1 : n ≤ E - 32768
  · by_cases p2 : n + 65536 ≤ 4611686018427387903
    · rw [show wholeF 65536 low E = n + 65536 by unfold wholeF; rw [hn, if_pos ⟨p1, p2⟩]]
      go_enter Tryd.func38, Tryd.ntmps38
      go_wp2_with (go_at_call 54; refine (gwithin_yes _ _ (by omega) (by omega) _).mono ?_; rintro e w' ⟨rfl, rfl⟩)
      go_ret2
      exact ⟨gret_pair (by omega), rfl⟩
    · rw [show wholeF 65536 low E = n by unfold wholeF; rw [hn, if_neg (fun h => p2 h.2), if_neg (fun h => by have := h.1; omega)]]
      go_enter Tryd.func38, Tryd.ntmps38
      go_wp2_with (go_at_call 54; refine (gwithin_yes _ _ (by omega) (by omega) _).mono ?_; rintro e w' ⟨rfl, rfl⟩)
      go_ret2
      exact ⟨gret_pair (by omega), rfl⟩
  · by_cases p3 : E + 32768 < n
    · by_cases p4 : 65536 ≤ n
      · rw [show wholeF 65536 low E = n - 65536 by unfold wholeF; rw [hn, if_neg (fun h => p1 h.1), if_pos ⟨p3, p4⟩]]
        go_enter Tryd.func38, Tryd.ntmps38
        go_wp2_with (go_at_call 54; refine (gwithin_yes _ _ (by omega) (by omega) _).mono ?_; rintro e w' ⟨rfl, rfl⟩)
        go_ret2
        exact ⟨gret_pair (by omega), rfl⟩
      · rw [show wholeF 65536 low E = n by unfold wholeF; rw [hn, if_neg (fun h => p1 h.1), if_neg (fun h => p4 h.2)]]
        go_enter Tryd.func38, Tryd.ntmps38
        go_wp2_with (go_at_call 54; refine (gwithin_yes _ _ (by omega) (by omega) _).mono ?_; rintro e w' ⟨rfl, rfl⟩)
        go_ret2
        exact ⟨gret_pair (by omega), rfl⟩
    · rw [show wholeF 65536 low E = n by unfold wholeF; rw [hn, if_neg (fun h => p1 h.1), if_neg (fun h => p3 h.1)]]
      go_enter Tryd.func38, Tryd.ntmps38
      go_wp2_with (go_at_call 54; refine (gwithin_yes _ _ (by omega) (by omega) _).mono ?_; rintro e w' ⟨rfl, rfl⟩)
      go_ret2
      exact ⟨gret_pair (by omega), rfl⟩
set_option maxHeartbeats 8000000 in
theorem rwhole_2 (low E : Int) (l0 : 0 ≤ low) (l1 : low < 65536) (h0 : 0 ≤ E) (h1 : E ≤ 4611686018427387903) (w : World) :
    Calls Tryd.prog 33 #[.int .i64 low, .int .i64 2, .int .i64 E] w fun e w' => e = .returned (.tuple #[.int .i64 (wholeF 65536 low E), .int .i64 0]) ∧ w = w' := by
  obtain ⟨n, hn⟩ : ∃ n, E - E % 65536 + low = n := ⟨_, rfl⟩
  have hn0 : 0 ≤ n ∧ n ≤ 4611686018427387903 := by omega
  have hq : E / 65536 * 65536 + low = n := by omega
  by_cases p1 : n ≤ E - 32768
  · by_cases p2 : n + 65536 ≤ 4611686018427387903
    · rw [show wholeF 65536 low E = n + 65536 by unfold wholeF; rw [hn, if_pos ⟨p1, p2⟩]]
      go_enter Tryd.func33, Tryd.ntmps33
      go_wp2_with fail
      go_ret2
      exact ⟨gret_pair (by omega), rfl⟩
    · rw [show wholeF 65536 low E = n by unfold wholeF; rw [hn, if_neg (fun h => p2 h.2), if_neg (fun h => by have := h.1; omega)]]
      go_enter Tryd.func33, Tryd.ntmps33
      go_wp2_with fail
      go_ret2
      exact ⟨gret_pair (by omega), rfl⟩
  · by_cases p3 : E + 32768 < n
    · by_cases p4 : 65536 ≤ n
      · rw [show wholeF 65536 low E = n - 65536 by unfold wholeF; rw [hn, if_neg (fun h => p1 h.1), if_pos ⟨p3, p4⟩]]
        go_enter Tryd.func33, Tryd.ntmps33
        go_wp2_with fail
        go_ret2
        exact ⟨gret_pair (by omega), rfl⟩
      · rw [show wholeF 65536 low E = n by unfold wholeF; rw [hn, if_neg (fun h => p1 h.1), if_neg (fun h => p4 h.2)]]
        go_enter Tryd.func33, Tryd.ntmps33
        go_wp2_with fail
        go_ret2
        exact ⟨gret_pair (by omega), rfl⟩
    · rw [show wholeF 65536 low E = n by unfold wholeF; rw [hn, if_neg (fun h => p1 h.1), if_neg (fun h => p3 h.1)]]
      go_enter Tryd.func33, Tryd.ntmps33
      go_wp2_with fail
      go_ret2
      exact ⟨gret_pair (by omega), rfl⟩
set_option maxHeartbeats 8000000 in
theorem gwhole_3 (low E : Int) (l0 : 0 ≤ low) (l1 : low < 16777216) (h0 : 0 ≤ E) (h1 : E ≤ 4611686018427387903) (w : World) :
    Calls Tryd.prog 38 #[.int .i64 low, .int .i64 3, .int .i64 E] w fun e w' => e = .returned (.tuple #[.int .i64 (wholeF 16777216 low E), .int .i64 0]) ∧ w = w' := by
  obtain ⟨n, hn⟩ : ∃ n, E - E % 16777216 + low = n := ⟨_, rfl⟩
  have hn0 : 0 ≤ n ∧ n ≤ 4611686018427387903 := by omega
  have hq : E / 16777216 * 16777216 + low = n := by omega
  by_cases p1 : n ≤ E - 8388608
  · by_cases p2 : n + 16777216 ≤ 4611686018427387903
    · rw [show wholeF 16777216 low E = n + 16777216 by unfold wholeF; rw [hn, if_pos ⟨p1, p2⟩]]
      go_enter Tryd.func38, Tryd.ntmps38
      go_wp2_with (go_at_call 54; refine (gwithin_yes _ _ (by omega) (by omega) _).mono ?_; rintro e w' ⟨rfl, rfl⟩)
      go_ret2
      exact ⟨gret_pair (by omega), rfl⟩
    · rw [show wholeF 16777216 low E = n by unfold wholeF; rw [hn, if_neg (fun h => p2 h.2), if_neg (fun h => by have := h.1; omega)]]
      go_enter Tryd.func38, Tryd.ntmps38
      go_wp2_with (go_at_call 54; refine (gwithin_yes _ _ (by omega) (by omega) _).mono ?_; rintro e w' ⟨rfl, rfl⟩)
      go_ret2
      exact ⟨gret_pair (by omega), rfl⟩
  · by_cases p3 : E + 8388608 < n
    · by_cases p4 : 16777216 ≤ n
      · rw [show wholeF 16777216 low E = n - 16777216 by unfold wholeF; rw [hn, if_neg (fun h => p1 h.1), if_pos ⟨p3, p4⟩]]
        go_enter Tryd.func38, Tryd.ntmps38
        go_wp2_with (go_at_call 54; refine (gwithin_yes _ _ (by omega) (by omega) _).mono ?_; rintro e w' ⟨rfl, rfl⟩)
        go_ret2
        exact ⟨gret_pair (by omega), rfl⟩
      · rw [show wholeF 16777216 low E = n by unfold wholeF; rw [hn, if_neg (fun h => p1 h.1), if_neg (fun h => p4 h.2)]]
        go_enter Tryd.func38, Tryd.ntmps38
        go_wp2_with (go_at_call 54; refine (gwithin_yes _ _ (by omega) (by omega) _).mono ?_; rintro e w' ⟨rfl, rfl⟩)
        go_ret2
        exact ⟨gret_pair (by omega), rfl⟩
    · rw [show wholeF 16777216 low E = n by unfold wholeF; rw [hn, if_neg (fun h => p1 h.1), if_neg (fun h => p3 h.1)]]
      go_enter Tryd.func38, Tryd.ntmps38
      go_wp2_with (go_at_call 54; refine (gwithin_yes _ _ (by omega) (by omega) _).mono ?_; rintro e w' ⟨rfl, rfl⟩)
      go_ret2
      exact ⟨gret_pair (by omega), rfl⟩
set_option maxHeartbeats 8000000 in
theorem rwhole_3 (low E : Int) (l0 : 0 ≤ low) (l1 : low < 16777216) (h0 : 0 ≤ E) (h1 : E ≤ 4611686018427387903) (w : World) :
    Calls Tryd.prog 33 #[.int .i64 low, .int .i64 3, .int .i64 E] w fun e w' => e = .returned (.tuple #[.int .i64 (wholeF 16777216 low E), .int .i64 0]) ∧ w = w' := by
  obtain ⟨n, hn⟩ : ∃ n, E - E % 16777216 + low = n := ⟨_, rfl⟩
  have hn0 : 0 ≤ n ∧ n ≤ 4611686018427387903 := by omega
  have hq : E / 16777216 * 16777216 + low = n := by omega
  by_cases p1 : n ≤ E - 8388608
  · by_cases p2 : n + 16777216 ≤ 4611686018427387903
    · rw [show wholeF 16777216 low E = n + 16777216 by unfold wholeF; rw [hn, if_pos ⟨p1, p2⟩]]
      go_enter Tryd.func33, Tryd.ntmps33
      go_wp2_with fail
      go_ret2
      exact ⟨gret_pair (by omega), rfl⟩
    · rw [show wholeF 16777216 low E = n by unfold wholeF; rw [hn, if_neg (fun h => p2 h.2), if_neg (fun h => by have := h.1; omega)]]
      go_enter Tryd.func33, Tryd.ntmps33
      go_wp2_with fail
      go_ret2
      exact ⟨gret_pair (by omega), rfl⟩
  · by_cases p3 : E + 8388608 < n
    · by_cases p4 : 16777216 ≤ n
      · rw [show wholeF 16777216 low E = n - 16777216 by unfold wholeF; rw [hn, if_neg (fun h => p1 h.1), if_pos ⟨p3, p4⟩]]
        go_enter Tryd.func33, Tryd.ntmps33
        go_wp2_with fail
        go_ret2
        exact ⟨gret_pair (by omega), rfl⟩
      · rw [show wholeF 16777216 low E = n by unfold wholeF; rw [hn, if_neg (fun h => p1 h.1), if_neg (fun h => p4 h.2)]]
        go_enter Tryd.func33, Tryd.ntmps33
        go_wp2_with fail
        go_ret2
        exact ⟨gret_pair (by omega), rfl⟩
    · rw [show wholeF 16777216 low E = n by unfold wholeF; rw [hn, if_neg (fun h => p1 h.1), if_neg (fun h => p3 h.1)]]
      go_enter Tryd.func33, Tryd.ntmps33
      go_wp2_with fail
      go_ret2
      exact ⟨gret_pair (by omega), rfl⟩
set_option maxHeartbeats 8000000 in
theorem gwhole_4 (low E : Int) (l0 : 0 ≤ low) (l1 : low < 4294967296) (h0 : 0 ≤ E) (h1 : E ≤ 4611686018427387903) (w : World) :
    Calls Tryd.prog 38 #[.int .i64 low, .int .i64 4, .int .i64 E] w fun e w' => e = .returned (.tuple #[.int .i64 (wholeF 4294967296 low E), .int .i64 0]) ∧ w = w' := by
  obtain ⟨n, hn⟩ : ∃ n, E - E % 4294967296 + low = n := ⟨_, rfl⟩
  have hn0 : 0 ≤ n ∧ n ≤ 4611686018427387903 := by omega
  have hq : E / 4294967296 * 4294967296 + low = n := by omega
  by_cases p1 : n ≤ E - 2147483648
  · by_cases p2 : n + 4294967296 ≤ 4611686018427387903
    · rw [show wholeF 4294967296 low E = n + 4294967296 by unfold wholeF; rw [hn, if_pos ⟨p1, p2⟩]]
      go_enter Tryd.func38, Tryd.ntmps38
      go_wp2_with (go_at_call 54; refine (gwithin_yes _ _ (by omega) (by omega) _).mono ?_; rintro e w' ⟨rfl, rfl⟩)
      go_ret2
      exact ⟨gret_pair (by omega), rfl⟩
    · rw [show wholeF 4294967296 low E = n by unfold wholeF; rw [hn, if_neg (fun h => p2 h.2), if_neg (fun h => by have := h.1; omega)]]
      go_enter Tryd.func38, Tryd.ntmps38
      go_wp2_with (go_at_call 54; refine (gwithin_yes _ _ (by omega) (by omega) _).mono ?_; rintro e w' ⟨rfl, rfl⟩)
      go_ret2
      exact ⟨gret_pair (by omega), rfl⟩
  · by_cases p3 : E + 2147483648 < n
    · by_cases p4 : 4294967296 ≤ n
      · rw [show wholeF 4294967296 low E = n - 4294967296 by unfold wholeF; rw [hn, if_neg (fun h => p1 h.1), if_pos ⟨p3, p4⟩]]
        go_enter Tryd.func38, Tryd.ntmps38
        go_wp2_with (go_at_call 54; refine (gwithin_yes _ _ (by omega) (by omega) _).mono ?_; rintro e w' ⟨rfl, rfl⟩)
        go_ret2
        exact ⟨gret_pair (by omega), rfl⟩
      · rw [show wholeF 4294967296 low E = n by unfold wholeF; rw [hn, if_neg (fun h => p1 h.1), if_neg (fun h => p4 h.2)]]
        go_enter Tryd.func38, Tryd.ntmps38
        go_wp2_with (go_at_call 54; refine (gwithin_yes _ _ (by omega) (by omega) _).mono ?_; rintro e w' ⟨rfl, rfl⟩)
        go_ret2
        exact ⟨gret_pair (by omega), rfl⟩
    · rw [show wholeF 4294967296 low E = n by unfold wholeF; rw [hn, if_neg (fun h => p1 h.1), if_neg (fun h => p3 h.1)]]
      go_enter Tryd.func38, Tryd.ntmps38
      go_wp2_with (go_at_call 54; refine (gwithin_yes _ _ (by omega) (by omega) _).mono ?_; rintro e w' ⟨rfl, rfl⟩)
      go_ret2
      exact ⟨gret_pair (by omega), rfl⟩
set_option maxHeartbeats 8000000 in
theorem rwhole_4 (low E : Int) (l0 : 0 ≤ low) (l1 : low < 4294967296) (h0 : 0 ≤ E) (h1 : E ≤ 4611686018427387903) (w : World) :
    Calls Tryd.prog 33 #[.int .i64 low, .int .i64 4, .int .i64 E] w fun e w' => e = .returned (.tuple #[.int .i64 (wholeF 4294967296 low E), .int .i64 0]) ∧ w = w' := by
  obtain ⟨n, hn⟩ : ∃ n, E - E % 4294967296 + low = n := ⟨_, rfl⟩
  have hn0 : 0 ≤ n ∧ n ≤ 4611686018427387903 := by omega
  have hq : E / 4294967296 * 4294967296 + low = n := by omega
  by_cases p1 : n ≤ E - 2147483648
  · by_cases p2 : n + 4294967296 ≤ 4611686018427387903
    · rw [show wholeF 4294967296 low E = n + 4294967296 by unfold wholeF; rw [hn, if_pos ⟨p1, p2⟩]]
      go_enter Tryd.func33, Tryd.ntmps33
      go_wp2_with fail
      go_ret2
      exact ⟨gret_pair (by omega), rfl⟩
    · rw [show wholeF 4294967296 low E = n by unfold wholeF; rw [hn, if_neg (fun h => p2 h.2), if_neg (fun h => by have := h.1; omega)]]
      go_enter Tryd.func33, Tryd.ntmps33
      go_wp2_with fail
      go_ret2
      exact ⟨gret_pair (by omega), rfl⟩
  · by_cases p3 : E + 2147483648 < n
    · by_cases p4 : 4294967296 ≤ n
      · rw [show wholeF 4294967296 low E = n - 4294967296 by unfold wholeF; rw [hn, if_neg (fun h => p1 h.1), if_pos ⟨p3, p4⟩]]
        go_enter Tryd.func33, Tryd.ntmps33
        go_wp2_with fail
        go_ret2
        exact ⟨gret_pair (by omega), rfl⟩
      · rw [show wholeF 4294967296 low E = n by unfold wholeF; rw [hn, if_neg (fun h => p1 h.1), if_neg (fun h => p4 h.2)]]
        go_enter Tryd.func33, Tryd.ntmps33
        go_wp2_with fail
        go_ret2
        exact ⟨gret_pair (by omega), rfl⟩
    · rw [show wholeF 4294967296 low E = n by unfold wholeF; rw [hn, if_neg (fun h => p1 h.1), if_neg (fun h => p3 h.1)]]
      go_enter Tryd.func33, Tryd.ntmps33
      go_wp2_with fail
      go_ret2
      exact ⟨gret_pair (by omega), rfl⟩
theorem gwhole_any (s : Nat) (hs1 : 1 ≤ s) (hs4 : s ≤ 4) (low E : Int) (l0 : 0 ≤ low) (l1 : low < 256 ^ s) (h0 : 0 ≤ E) (h1 : E ≤ 4611686018427387903) (w : World) :
    Calls Tryd.prog 38 #[.int .i64 low, .int .i64 (s : Int), .int .i64 E] w fun e w' => e = .returned (.tuple #[.int .i64 (wholeF (256 ^ s) low E), .int .i64 0]) ∧ w = w' := by
  obtain rfl | rfl | rfl | rfl : s = 1 ∨ s = 2 ∨ s = 3 ∨ s = 4 := by omega
  · exact gwhole_1 low E l0 (by omega) h0 h1 w
  · exact gwhole_2 low E l0 (by omega) h0 h1 w
  · exact gwhole_3 low E l0 (by omega) h0 h1 w
  · exact gwhole_4 low E l0 (by omega) h0 h1 w
theorem rwhole_any (s : Nat) (hs1 : 1 ≤ s) (hs4 : s ≤ 4) (low E : Int) (l0 : 0 ≤ low) (l1 : low < 256 ^ s) (h0 : 0 ≤ E) (h1 : E ≤ 4611686018427387903) (w : World) :
    Calls Tryd.prog 33 #[.int .i64 low, .int .i64 (s : Int), .int .i64 E] w fun e w' => e = .returned (.tuple #[.int .i64 (wholeF (256 ^ s) low E), .int .i64 0]) ∧ w = w' := by
  obtain rfl | rfl | rfl | rfl : s = 1 ∨ s = 2 ∨ s = 3 ∨ s = 4 := by omega
  · exact rwhole_1 low E l0 (by omega) h0 h1 w
  · exact rwhole_2 low E l0 (by omega) h0 h1 w
  · exact rwhole_3 low E l0 (by omega) h0 h1 w
  · exact rwhole_4 low E l0 (by omega) h0 h1 w
end Go.Proofs.YtjbpjoondmcnlabDoor
namespace Go.Proofs.YtjbpjoondmcnlabDoor
open Go Go.RowKit Go.BigFrame
set_option linter.unusedSimpArgs false
set_option linter.unusedVariables false
set_option maxRecDepth 100000
def pkC (K I M H : ByteArray) (S N : Int) (C : ByteArray) (E : Int) (F : Bool) : Array Value := #[.string K, .string I, .string M, .string H, .int .i64 S, .int .i64 N, .string C, .int .i64 E, .bool F]
theorem pk_cells {w : World} {b : Nat} {T : TypeId} {K I M H C : ByteArray} {S N E : Int} {F : Bool} (h : w.heap[b]? = some (.cells (pkC K I M H S N C E F) T (0, 0))) :
    w.cell? ⟨b, 0, none⟩ = some (.string K) ∧ w.cell? ⟨b, 1, none⟩ = some (.string I) ∧ w.cell? ⟨b, 2, none⟩ = some (.string M) ∧ w.cell? ⟨b, 3, none⟩ = some (.string H) ∧ w.cell? ⟨b, 4, none⟩ = some (.int .i64 S) ∧ w.cell? ⟨b, 5, none⟩ = some (.int .i64 N) ∧ w.cell? ⟨b, 6, none⟩ = some (.string C) ∧ w.cell? ⟨b, 7, none⟩ = some (.int .i64 E) ∧ w.cell? ⟨b, 8, none⟩ = some (.bool F) := by
  refine ⟨?_, ?_, ?_, ?_, ?_, ?_, ?_, ?_, ?_⟩ <;> (rw [cell_of_row _ _ _ _ _ _ h]; rfl)
theorem OwnZ.put {B n : Nat} {v : Value} {f : Nat → BitVec 8} {w : World} (h : OwnZ B v n f w) (hn : 0 < n) : ∃ g c, v = .slice (some ⟨g, 0, none⟩) n c ∧ B ≤ g ∧ w.cell? ⟨g, 0, none⟩ = some (.int .u8 (n8 (f 0))) ∧ w.frozen? ⟨g, 0, none⟩ = false ∧ ∀ x : BitVec 8, OwnZ B v n (updb f 0 x) (w.setCell ⟨g, 0, none⟩ (.int .u8 (n8 x))) := by
  rcases h.row with ⟨_, h0⟩ | ⟨g, cap, cur, fr, rfl, h2, h3, h4, h5, h6, h7, h8⟩
  · omega
  · refine ⟨g, cap, rfl, h2, by rw [cell_of_row _ _ _ _ _ _ h3]; exact h8 0 hn, frozenF h3 h4 (by omega), fun x => ⟨.inr ?_, by simpa using h.base⟩⟩
    obtain ⟨cs', e1, e2, e3⟩ := setCells_rowF g 5 fr [.int .u8 (n8 x)] 0 w cur h3
    refine ⟨g, cap, cs', fr, rfl, h2, e1, by rw [e2]; exact h4, h5, h6, by rw [e2]; exact h7, fun i hi => ?_⟩
    rw [e3]
    unfold updb
    by_cases hij : i = 0
    · subst hij
      rw [if_pos ⟨by omega, by simp, by omega⟩, if_pos rfl]; simp
    · rw [if_neg (by simp; omega), if_neg hij]; exact h8 i hi
theorem n8_in (X : Int) (h0 : 0 ≤ X) (h1 : X < 256) : X = n8 (BitVec.ofInt 8 X) := by rw [n8_nat, BitVec.toNat_ofInt]; omega
theorem OwnZ.bytes' {B n : Nat} {v : Value} {f : Nat → BitVec 8} {w : World} (h : OwnZ B v n f w) : ∃ a c, v = .slice a n c ∧ n ≤ c ∧ c ≤ maxLen ∧ BytesIn w a n f := by
  rcases h.row with ⟨rfl, rfl⟩ | ⟨g, cap, cur, fr, rfl, h2, h3, h4, h5, h6, h7, h8⟩
  · exact ⟨none, 0, rfl, by omega, by unfold maxLen; omega, by unfold maxLen; omega, .inl rfl⟩
  · exact ⟨_, cap, rfl, h5, h6, by omega, .inr ⟨g, 0, rfl, lt_of_heap h3, fun i hi => by rw [Nat.zero_add, cell_of_row _ _ _ _ _ _ h3]; exact h8 i hi⟩⟩
theorem n8_of (X : Int) : X % 256 = n8 (BitVec.ofInt 8 X) := by rw [n8_nat, BitVec.toNat_ofInt]; omega
set_option maxHeartbeats 8000000 in
theorem fit_any (K I M C : ByteArray) (f : Nat → BitVec 8) (n : Nat) (S N E : Int) (F : Bool) (w : World) :
    Calls Tryd.prog 9 #[.agg (pkC K I M (strOf f n) S N C E F)] w fun e w' => ∃ g m, e = .returned (.string (strOf g m)) ∧ m ≤ 64 ∧ Below w.heap.size w w' := by
  have R0 : (w.alloc (.cells (pkC K I M (strOf f n) S N C E F) 25)).heap[w.heap.size]? = some (.cells (pkC K I M (strOf f n) S N C E F) 25 (0, 0)) := heap_alloc_last _ _
  have hb1 : Below w.heap.size w (w.alloc (.cells (pkC K I M (strOf f n) S N C E F) 25)) := (Below.refl w.heap.size w).alloc (Nat.le_refl _) _
  have HB := Lib.hid hb1
  have HL := Lib.hid (show w.heap.size < (w.alloc (.cells (pkC K I M (strOf f n) S N C E F) 25)).heap.size by simp)
  obtain ⟨c0, c1, c2, c3, c4, c5, c6, c7, c8⟩ := pk_cells R0
  have hk : min n 60 ≤ n := by omega
  have hk2 : min n 60 ≤ 60 := by omega
  have su := fun w' => run_str_upto f n (min n 60) (if (60 : Int) < (n : Int) then (60 : Int) else (n : Int)) (by split <;> omega) hk w'
  have hsz := strOf_size f n
  have hsz2 := strOf_size f (min n 60)
  have HEX := Lib.hid (show (60 : Int) < (n : Int) → (strOf f n).extract 0 60 = strOf f (min n 60) from fun h => by
    rw [sg_cut f 0 60 n (by omega) (by omega), show min n 60 = 60 by omega]
    congr 1
    funext i
    rw [Nat.zero_add])
  have HEY := Lib.hid (show ¬ (60 : Int) < (n : Int) → (strOf f n).extract 0 n = strOf f (min n 60) from fun h => by
    rw [sg_cut f 0 n n (by omega) (by omega), show min n 60 = n by omega]
    congr 1
    funext i
    rw [Nat.zero_add])
  generalize min n 60 = k at *
  have SRC := Lib.hid (fun w' : World => src_str f k w')
  have CO := Lib.hid (fun (w' : World) (B : Nat) (hB : B ≤ w'.heap.size) => conv_ownZ f k (by omega) w' B hB)
  clear hb1 R0 c0 c1 c2 c6 c7
  unfold pkC at *
  obtain ⟨SF, hSF⟩ : ∃ SF, strOf f k = SF := ⟨_, rfl⟩
  have HSF := Lib.hid hSF
  rw [hSF] at su hsz2 SRC CO HEX HEY
  clear hSF
  generalize strOf f n = SN at *
  rcases Decidable.em ((60 : Int) < (n : Int)) with h60 | h60
  all_goals
    first | have hx := HEX.out h60 | have hx := HEY.out h60
    by_cases hF : F = true
    · subst hF
      by_cases h1 : S < 1
      · go_enter Tryd.func9, Tryd.ntmps9
        go_wp2_with fail
        go_ret
        exact ⟨f, k, by rw [HSF.out]; rfl, by omega, HB.out⟩
      by_cases h2 : S > 4
      · go_enter Tryd.func9, Tryd.ntmps9
        go_wp2_with fail
        go_ret
        exact ⟨f, k, by rw [HSF.out]; rfl, by omega, HB.out⟩
      obtain ⟨s, rfl⟩ : ∃ s : Nat, S = (s : Int) := ⟨S.toNat, by omega⟩
      go_enter Tryd.func9, Tryd.ntmps9
      have hw1 : IntKind.wrap .i64 ((s : Int) - 1) = (s : Int) - 1 := by simp only [IntKind.wrap, IntKind.bits, IntKind.signed]; simp; omega
      go_upto_region 4 with (fail)
      obtain ⟨w1, hW1⟩ : ∃ w1, w.alloc (.cells #[.string K, .string I, .string M, .string SN, .int .i64 (s : Int), .int .i64 N, .string C, .int .i64 E, .bool true] 25) = w1 := ⟨_, rfl⟩
      rw [hW1] at HB HL c3 c4 c5 c8
      simp only [hW1]
      have C1 := Lib.hid (show w1.cell? ⟨w.heap.size, 4, none⟩ = some (.int .i64 (s : Int)) ∧ w1.cell? ⟨w.heap.size, 5, none⟩ = some (.int .i64 N) from ⟨c4, c5⟩)
      clear c3 c8 hW1 su c4 c5
      have hcv := conv_same w1 #[.int .u8 33] 5 1 1
      have O2 : OwnZ w1.heap.size (.slice (some ⟨w1.heap.size, 0, none⟩) 1 1) 1 (fun _ => 33#8) (w1.alloc (.cells #[.int .u8 33] 5 (1, 1 + 1))) :=
        ⟨.inr ⟨w1.heap.size, 1, #[.int .u8 33], (1, 2), rfl, Nat.le_refl _, heap_alloc_last _ _, .inr (Nat.le_refl _), Nat.le_refl _, by unfold maxLen; omega, rfl, fun j hj => by
          obtain rfl : j = 0 := by omega
          rw [show n8 33#8 = 33 by rw [n8_nat]; rfl]; rfl⟩, by simp⟩
      have b2 : Below w1.heap.size w1 (w1.alloc (.cells #[.int .u8 33] 5 (1, 1 + 1))) := (Below.refl _ _).alloc (Nat.le_refl _) _
      have HO2 := Lib.hid O2
      have HB2 := Lib.hid b2
      clear O2 b2
      go_upto_region 5 with (at_builtin; refine wpList_append_z (o := ⟨some 30, _, _, _, _, _⟩) (by rfl) _ _ 9 rfl rfl rfl HO2.out (SRC.out _) (by omega) ?_; intro v3 w3 o3 b3; have O3 := Lib.hid o3; have B3 := Lib.hid (HB2.out.trans b3); clear o3 b3)
      clear hcv HO2 HB2
      by_cases hk0 : k = 0
      · subst hk0
        have o3 := O3.out
        rw [Nat.add_zero] at o3
        clear O3
        obtain ⟨gb, cb, rfl, hgb, cz, fz, PUT⟩ := o3.put (by omega)
        have cs := (B3.out.cell (p := ⟨w.heap.size, 4, none⟩) HL.out).trans C1.out.1
        have PU := Lib.hid PUT
        have BB := Lib.hid B3.out
        clear PUT CO HSF B3 o3
        go_upto_region 7 with (fail)
        go_region
        go_wp2_with fail
        obtain ⟨x, hx8⟩ : ∃ x : BitVec 8, (n8 ((joinb (fun _ => 33#8) 1 f) 0)).tdiv 4 % 256 * 4 % 256 + ((s : Int) - 1) = n8 x := ⟨_, n8_in _ (by omega) (by omega)⟩
        rw [hx8]
        have OX := PU.out x
        have BX := Lib.hid (BB.out.setCell hgb (p := ⟨gb, 0, none⟩) (.int .u8 (n8 x)))
        clear PU cz fz cs hx8
        generalize World.setCell _ _ _ = wx at *
        have OXD := Lib.hid (show OwnZ w1.heap.size (.slice (some ⟨gb, 0, none⟩) 1 cb) 1 (updb (joinb (fun _ => 33#8) 1 f) 0 x) wx.drew from ⟨OX.row, OX.base⟩)
        clear OX BB
        go_loopw [4, 5] (fun s4 s5 wr => ∃ (t L : Nat) (g : Nat → BitVec 8), t ≤ s ∧ L = 1 + (s - t) ∧ s5 = .int .i64 ((t : Int) - 1) ∧ OwnZ w1.heap.size s4 L g wr ∧ Below w1.heap.size w1 wr) (fun _ s5 _ => (intOf s5 + 1).toNat)
        case atStart => exact ⟨s, _, _, by omega, by omega, rfl, OXD.out, BX.out.drew⟩
        case round =>
          clear OXD BX
          obtain ⟨t, L, g, ht, hLL, rfl, ow, bw⟩ := hrel
          have HLL := Lib.hid hLL
          clear hLL
          have OW := Lib.hid ow
          have BW := Lib.hid bw
          clear ow bw
          cases t with
          | zero =>
            have hz : ¬ (0 : Int) ≤ ((0 : Nat) : Int) - 1 := by omega
            obtain ⟨aw, cw, hv, _, _, inw⟩ := OW.out.bytes'
            subst hv
            have cv := conv_in _ aw _ cw wr inw
            clear inw
            go_wp2_with fail
            go_ret
            exact ⟨g, L, rfl, by have := HLL.out; omega, HB.out.trans (BW.out.mono HB.out.size)⟩
          | succ u =>
            have hL5 : L ≤ 64 := by have := HLL.out; omega
            have e5 : ((u + 1 : Nat) : Int) - 1 = (u : Int) := by omega
            rw [e5]
            have hz : (0 : Int) ≤ (u : Int) := by omega
            have cN := (BW.out.cell (p := ⟨w.heap.size, 5, none⟩) HL.out).trans C1.out.2
            have SR : Src Tryd.prog 1 31 (.slice (some ⟨wr.heap.size, 0, none⟩) 1 1) 1 (firsts (fun _ => BitVec.ofInt 8 (N / 2 ^ (8 * u))) 1) (wr.alloc (.cells #[.int .u8 (N / 2 ^ (8 * u) % 256)] 5)) := by
              rw [n8_of]; exact src_one_new wr _
            have SRH := Lib.hid SR
            have OA := Lib.hid (OW.out.later ((Below.refl wr.heap.size wr).alloc (Nat.le_refl _) (.cells #[.int .u8 (N / 2 ^ (8 * u) % 256)] 5)))
            have BA := Lib.hid (BW.out.alloc BW.out.size (.cells #[.int .u8 (N / 2 ^ (8 * u) % 256)] 5))
            clear SR OW BW
            go_wp2_with (at_builtin; refine wpList_append_z (o := ⟨some 63, _, _, _, _, _⟩) (by rfl) _ _ 31 rfl rfl rfl OA.out SRH.out (by omega) ?_; intro v7 w7 o7 b7; have O7 := Lib.hid o7; have B7 := Lib.hid (BA.out.trans b7); clear o7 b7)
            go_roundw
            case rel => exact ⟨u, L + 1, _, by omega, by have := HLL.out; omega, by go_num, O7.out, B7.out⟩
            case measure => (simp [intOf] <;> omega)
      · have hkI : (0 : Int) < (k : Int) := by omega
        obtain ⟨v4, w4, hcv, o4, b4⟩ := CO.out w3 w1.heap.size B3.out.size
        have B4 := Lib.hid (B3.out.trans (b4.mono B3.out.size))
        obtain ⟨gb, cb, rfl, hgb, cz, fz, PUT⟩ := o4.put (by omega)
        have cs := (B4.out.cell (p := ⟨w.heap.size, 4, none⟩) HL.out).trans C1.out.1
        have PU := Lib.hid PUT
        have BB := Lib.hid B4.out
        clear PUT O3 CO HSF o4 b4 B3 B4
        go_upto_region 7 with (fail)
        go_region
        go_wp2_with fail
        clear hcv
        obtain ⟨x, hx8⟩ : ∃ x : BitVec 8, (n8 (f 0)).tdiv 4 % 256 * 4 % 256 + ((s : Int) - 1) = n8 x := ⟨_, n8_in _ (by omega) (by omega)⟩
        rw [hx8]
        have OX := PU.out x
        have BX := Lib.hid (BB.out.setCell hgb (p := ⟨gb, 0, none⟩) (.int .u8 (n8 x)))
        clear PU cz fz cs hx8
        generalize World.setCell _ _ _ = wx at *
        have OXD := Lib.hid (show OwnZ w1.heap.size (.slice (some ⟨gb, 0, none⟩) k cb) k (updb f 0 x) wx.drew from ⟨OX.row, OX.base⟩)
        clear OX BB
        go_loopw [4, 5] (fun s4 s5 wr => ∃ (t L : Nat) (g : Nat → BitVec 8), t ≤ s ∧ L = k + (s - t) ∧ s5 = .int .i64 ((t : Int) - 1) ∧ OwnZ w1.heap.size s4 L g wr ∧ Below w1.heap.size w1 wr) (fun _ s5 _ => (intOf s5 + 1).toNat)
        case atStart => exact ⟨s, _, _, by omega, by omega, rfl, OXD.out, BX.out.drew⟩
        case round =>
          clear OXD BX
          obtain ⟨t, L, g, ht, hLL, rfl, ow, bw⟩ := hrel
          have HLL := Lib.hid hLL
          clear hLL
          have OW := Lib.hid ow
          have BW := Lib.hid bw
          clear ow bw
          cases t with
          | zero =>
            have hz : ¬ (0 : Int) ≤ ((0 : Nat) : Int) - 1 := by omega
            obtain ⟨aw, cw, hv, _, _, inw⟩ := OW.out.bytes'
            subst hv
            have cv := conv_in _ aw _ cw wr inw
            clear inw
            go_wp2_with fail
            go_ret
            exact ⟨g, L, rfl, by have := HLL.out; omega, HB.out.trans (BW.out.mono HB.out.size)⟩
          | succ u =>
            have hL5 : L ≤ 64 := by have := HLL.out; omega
            have e5 : ((u + 1 : Nat) : Int) - 1 = (u : Int) := by omega
            rw [e5]
            have hz : (0 : Int) ≤ (u : Int) := by omega
            have cN := (BW.out.cell (p := ⟨w.heap.size, 5, none⟩) HL.out).trans C1.out.2
            have SR : Src Tryd.prog 1 31 (.slice (some ⟨wr.heap.size, 0, none⟩) 1 1) 1 (firsts (fun _ => BitVec.ofInt 8 (N / 2 ^ (8 * u))) 1) (wr.alloc (.cells #[.int .u8 (N / 2 ^ (8 * u) % 256)] 5)) := by
              rw [n8_of]; exact src_one_new wr _
            have SRH := Lib.hid SR
            have OA := Lib.hid (OW.out.later ((Below.refl wr.heap.size wr).alloc (Nat.le_refl _) (.cells #[.int .u8 (N / 2 ^ (8 * u) % 256)] 5)))
            have BA := Lib.hid (BW.out.alloc BW.out.size (.cells #[.int .u8 (N / 2 ^ (8 * u) % 256)] 5))
            clear SR OW BW
            go_wp2_with (at_builtin; refine wpList_append_z (o := ⟨some 63, _, _, _, _, _⟩) (by rfl) _ _ 31 rfl rfl rfl OA.out SRH.out (by omega) ?_; intro v7 w7 o7 b7; have O7 := Lib.hid o7; have B7 := Lib.hid (BA.out.trans b7); clear o7 b7)
            go_roundw
            case rel => exact ⟨u, L + 1, _, by omega, by have := HLL.out; omega, by go_num, O7.out, B7.out⟩
            case measure => (simp [intOf] <;> omega)
    · obtain rfl : F = false := by cases F <;> simp_all
      go_enter Tryd.func9, Tryd.ntmps9
      go_wp2_with fail
      go_ret
      exact ⟨f, k, by rw [HSF.out]; rfl, by omega, HB.out⟩
end Go.Proofs.YtjbpjoondmcnlabDoor
namespace Go.Proofs.YtjbpjoondmcnlabDoor
open Go Go.RowKit Go.BigFrame
set_option linter.unusedSimpArgs false
set_option linter.unusedVariables false
set_option maxRecDepth 100000
theorem str_of (s : ByteArray) (n : Nat) (h : s.size = n) : ∃ f, s = strOf f n := by
  obtain ⟨f, hf⟩ := str_as s
  rw [h] at hf
  exact ⟨f, hf⟩
def SealsTo (K I M : ByteArray) (f xs : Nat → BitVec 8) (m n : Nat) (S N : Int) (T : ByteArray) (r : Int) : Prop :=
  ∀ (w' : World) (a a2 : Option Addr) (c c2 : Nat), m ≤ c → c ≤ maxLen → BytesIn w' a m f → BytesIn w' a2 n xs →
    Calls Tryd.prog 11 #[.agg (kysC K I M), .slice a m c, .int .i64 S, .int .i64 N, .slice a2 n c2] w' fun e w2 => ∃ b m2 c3 g, e = .returned (.tuple #[.slice b m2 c3, .int .i64 r]) ∧ BytesIn w2 b m2 g ∧ T = strOf g m2 ∧ Below w'.heap.size w' w2
theorem sealsTo_bad (K I M : ByteArray) (f xs : Nat → BitVec 8) (m n : Nat) (S N r : Int) (hr : r ≠ 0)
    (SL : ∀ (w' : World) (a a2 : Option Addr) (c c2 : Nat), m ≤ c → c ≤ maxLen → BytesIn w' a m f → Calls Tryd.prog 25 #[.agg (kysC K I M), .slice a m c, .int .i64 S, .int .i64 N, .slice a2 n c2] w' fun e w2 => e = .returned (.int .i64 r) ∧ Below w'.heap.size w' w2) :
    SealsTo K I M f xs m n S N ⟨#[]⟩ r := by
  intro w' a a2 c c2 hc hcm hf hx
  refine (seal_bad K I M a a2 m c n c2 S N r w' hr (fun w2 hb => SL w2 a a2 c c2 hc hcm (bytesIn_later hf hb))).mono ?_
  rintro e w2 ⟨rfl, hb⟩
  exact ⟨none, 0, 0, fun _ => 0#8, rfl, ⟨by unfold maxLen; omega, .inl rfl⟩, rfl, hb⟩
theorem seals_both (K I M : ByteArray) (f xs : Nat → BitVec 8) (m n : Nat) (hm : m ≤ 4000) (hn : n ≤ 1000) (S N : Int) (hS0 : 0 - 9223372036854775808 ≤ S) (hS1 : S ≤ 9223372036854775807) (w : World) :
    Calls Tryd.prog 10 #[.agg (kysC K I M), .string (strOf f m), .int .i64 S, .int .i64 N, .string (strOf xs n)] w fun e w1 => ∃ (T : ByteArray) (r : Int), e = .returned (.tuple #[.string T, .int .i64 r]) ∧ Below w.heap.size w w1 ∧ SealsTo K I M f xs m n S N T r := by
  by_cases hbad : badArg K.size I.size M.size m S N
  · refine (docSeal_arg K I M _ _ _ rfl rfl rfl S N hS0 hS1 _ _ m (strOf_size _ _) hm w hbad).mono ?_
    rintro e w1 ⟨rfl, hb⟩
    exact ⟨_, _, rfl, hb, sealsTo_bad K I M f xs m n S N 1 (by decide) (fun w' a a2 c c2 _ _ _ => sealable_arg K I M _ _ _ rfl rfl rfl S N hS0 hS1 a a2 m c n c2 hm w' hbad)⟩
  · unfold badArg at hbad
    have h0 : 0 ≤ N ∧ N ≤ 4611686018427387903 := Decidable.byContradiction fun h => hbad (.inr (.inr (.inl h)))
    have hk : K.size = 16 ∧ I.size = 12 ∧ M.size = 16 := Decidable.byContradiction fun h => hbad (.inr (.inr (.inr (.inl h))))
    obtain ⟨s, rfl⟩ : ∃ s : Nat, S = (s : Int) := ⟨S.toNat, by omega⟩
    have hs1 : 1 ≤ s := by omega
    have hs4 : s ≤ 4 := by omega
    have hsm : s + 1 ≤ m := by omega
    obtain ⟨k, rfl⟩ := str_of K 16 hk.1
    obtain ⟨iv, rfl⟩ := str_of I 12 hk.2.1
    obtain ⟨mk, rfl⟩ := str_of M 16 hk.2.2
    have SLr := fun (r : Int) (hr : (¬ formOk f m s N ∧ r = 2) ∨ (formOk f m s N ∧ n + s < 4 ∧ r = 3) ∨ (formOk f m s N ∧ ¬ n + s < 4 ∧ 65000 < n ∧ r = 5) ∨ (formOk f m s N ∧ ¬ n + s < 4 ∧ ¬ 65000 < n ∧ r = 0)) (w' : World) (a a2 : Option Addr) (c c2 : Nat) (hc : m ≤ c) (hf : BytesIn w' a m f) =>
      sealable_ok (strOf k 16) (strOf iv 12) (strOf mk 16) (strOf_size _ _) (strOf_size _ _) (strOf_size _ _) N h0.1 h0.2 s hs1 hs4 a a2 m c n c2 f hm hc w' hsm hf r hr
    have DS := fun (T : ByteArray) (r : Int) (hr : sealR k iv mk f xs N m s n T r) => docSeal_ok k iv mk f xs N h0.1 h0.2 s m n hs1 hs4 hm hsm (by omega) w T r hr
    by_cases hform : formOk f m s N
    · by_cases hns : n + s < 4
      · refine (DS ⟨#[]⟩ 3 (.inr (.inl ⟨hform, hns, rfl, rfl⟩))).mono ?_
        rintro e w1 ⟨rfl, hb⟩
        exact ⟨_, _, rfl, hb, sealsTo_bad _ _ _ f xs m n s N 3 (by decide) (fun w' a a2 c c2 hc _ hf => SLr 3 (.inr (.inl ⟨hform, hns, rfl⟩)) w' a a2 c c2 hc hf)⟩
      · have hn5 : ¬ 65000 < n := by omega
        refine (DS _ 0 (.inr (.inr (.inr ⟨hform, hns, hn5, rfl, rfl⟩)))).mono ?_
        rintro e w1 ⟨rfl, hb⟩
        refine ⟨_, _, rfl, hb, ?_⟩
        intro w' a a2 c c2 hc hcm hf hx
        refine (seal_ok k iv mk f xs N h0.1 h0.2 s m n hs1 hs4 hm hsm hns hn5 a a2 c c2 hc hcm w' hf hx (fun w2 hb => SLr 0 (.inr (.inr (.inr ⟨hform, hns, hn5, rfl⟩))) w2 a a2 c c2 hc (bytesIn_later hf hb))).mono ?_
        rintro e w2 ⟨g, z, c', rfl, hg, hc', hcm', ra, hb⟩
        exact ⟨_, _, c', _, rfl, ra.bytesIn (by omega), rfl, hb⟩
    · refine (DS ⟨#[]⟩ 2 (.inl ⟨hform, rfl, rfl⟩)).mono ?_
      rintro e w1 ⟨rfl, hb⟩
      exact ⟨_, _, rfl, hb, sealsTo_bad _ _ _ f xs m n s N 2 (by decide) (fun w' a a2 c c2 hc _ hf => SLr 2 (.inl ⟨hform, rfl⟩) w' a a2 c c2 hc hf)⟩
end Go.Proofs.YtjbpjoondmcnlabDoor
namespace Go.Proofs.YtjbpjoondmcnlabDoor
open Go Go.RowKit Go.BigFrame
set_option linter.unusedSimpArgs false
set_option linter.unusedVariables false
set_option maxRecDepth 100000
/-- Two operations may come up, each makes memory. -/
theorem anyM_two {P : Program} {ops : Array Oper} {Q : Exit → Act → World → Prop} {md : Region.Mode} {i j : Nat} {o o' : Oper} {f : Nat} {l : Array Bool} {a : Act} {w : World} (hr : Region.ready md ops l = [i, j]) (hi : ops[i]? = some o) (hj : ops[j]? = some o')
    (hw : Region.wanted o (yielded ops a.tmps) = true) (hw' : Region.wanted o' (yielded ops a.tmps) = true)
    (h : ∀ w2, Ext w w2 → ∃ v w3, (execOp a.eval o).run P w2 = .ok (.value v) w3 ∧ Ext w2 w3 ∧ anyM P md ops Q f (l.setIfInBounds i true) (a.put o.dst v) w3)
    (h' : ∀ w2, Ext w w2 → ∃ v w3, (execOp a.eval o').run P w2 = .ok (.value v) w3 ∧ Ext w2 w3 ∧ anyM P md ops Q f (l.setIfInBounds j true) (a.put o'.dst v) w3) : anyM P md ops Q (f + 1) l a w := by
  refine ⟨fun h0 => (by rw [hr] at h0; cases h0), fun k hk w2 e => ?_⟩
  rw [hr] at hk
  rcases List.mem_cons.1 hk with rfl | hk
  · obtain ⟨v, w3, h1, h2, h3⟩ := h w2 e
    unfold wpOp
    simp only [hi]
    rw [if_pos hw]
    refine .inl ?_
    unfold Oper.wp
    rw [h1]
    exact ⟨h2, h3⟩
  · obtain rfl := List.mem_singleton.1 hk
    obtain ⟨v, w3, h1, h2, h3⟩ := h' w2 e
    unfold wpOp
    simp only [hj]
    rw [if_pos hw']
    refine .inl ?_
    unfold Oper.wp
    rw [h1]
    exact ⟨h2, h3⟩
theorem open_pack {H : Type} {enc : TypeId × Value → H} {w : World} {base : Nat} {v : Value} {d : DataW H} {p : List MemPlace} (hk : Value.okWide Tryd.prog w .any base 25 v)
    (h : DataW.Trod enc Tryd.prog w 0 (fun _ => true) true 25 v d p) :
    ∃ K I M Hd S N C E F, v = .agg (pkC K I M Hd S N C E F) ∧ 0 - 9223372036854775808 ≤ S ∧ S ≤ 9223372036854775807 := by
  obtain ⟨cs, rfl, hs⟩ := okWide_agg (by kernel_rfl) hk
  have hs9 : cs.size = 9 := hs.trans (by kernel_rfl)
  obtain ⟨fuel, hf⟩ := h
  obtain ⟨xs, n, _, hd, _, hl, hx⟩ := DataW.trod_struct Tryd.underlying25 hf
  match xs, hl with
  | [y0, y1, y2, y3, y4, y5, y6], _ =>
    match cs, hs9 with
    | ⟨[v0, v1, v2, v3, v4, v5, v6, v7, v8]⟩, _ =>
      have g0 : DataW.trod enc Tryd.prog w 0 (fun _ => true) true n 23 [v0, v1, v2] = some y0 := hx 0 _ rfl
      have g1 : DataW.trod enc Tryd.prog w 0 (fun _ => true) true n 9 [v3] = some y1 := hx 1 _ rfl
      have g2 : DataW.trod enc Tryd.prog w 0 (fun _ => true) true n 3 [v4] = some y2 := hx 2 _ rfl
      have g3 : DataW.trod enc Tryd.prog w 0 (fun _ => true) true n 3 [v5] = some y3 := hx 3 _ rfl
      have g4 : DataW.trod enc Tryd.prog w 0 (fun _ => true) true n 9 [v6] = some y4 := hx 4 _ rfl
      have g5 : DataW.trod enc Tryd.prog w 0 (fun _ => true) true n 3 [v7] = some y5 := hx 5 _ rfl
      have g6 : DataW.trod enc Tryd.prog w 0 (fun _ => true) true n 4 [v8] = some y6 := hx 6 _ rfl
      obtain ⟨xs2, n2, _, hd2, _, hl2, hx2⟩ := DataW.trod_struct Tryd.underlying23 g0
      match xs2, hl2 with
      | [z0, z1, z2], _ =>
        have k0 : DataW.trod enc Tryd.prog w 0 (fun _ => true) true n2 9 [v0] = some z0 := hx2 0 _ rfl
        have k1 : DataW.trod enc Tryd.prog w 0 (fun _ => true) true n2 9 [v1] = some z1 := hx2 1 _ rfl
        have k2 : DataW.trod enc Tryd.prog w 0 (fun _ => true) true n2 9 [v2] = some z2 := hx2 2 _ rfl
        have ui : Tryd.prog.underlying 3 = some (.int .i64) := by kernel_rfl
        have us : Tryd.prog.underlying 9 = some .string := by kernel_rfl
        obtain ⟨K, e0, _, _⟩ := DataW.trod_string us k0
        obtain ⟨I, e1, _, _⟩ := DataW.trod_string us k1
        obtain ⟨M, e2, _, _⟩ := DataW.trod_string us k2
        obtain ⟨Hd, e3, _, _⟩ := DataW.trod_string us g1
        obtain ⟨S, e4, q1, q2⟩ := DataW.trod_int ui g2
        obtain ⟨N, e5, _, _⟩ := DataW.trod_int ui g3
        obtain ⟨C, e6, _, _⟩ := DataW.trod_string us g4
        obtain ⟨E, e7, _, _⟩ := DataW.trod_int ui g5
        obtain ⟨F, e8, _⟩ := DataW.trod_bool (show Tryd.prog.underlying 4 = some .bool from by kernel_rfl) g6
        simp only [List.cons.injEq, and_true] at e0 e1 e2 e3 e4 e5 e6 e7 e8
        subst e0 e1 e2 e3 e4 e5 e6 e7 e8
        have hb : -9223372036854775808 ≤ S ∧ S ≤ 9223372036854775807 := by simpa [Lit.wf, IntKind.min, IntKind.max, IntKind.signed, IntKind.bits] using q2
        exact ⟨K, I, M, Hd, S, N, C, E, F, rfl, by omega, by omega⟩
end Go.Proofs.YtjbpjoondmcnlabDoor
namespace Go.Proofs.YtjbpjoondmcnlabDoor
open Go Go.RowKit Go.BigFrame
theorem put_comm (a : Act) (d d' : Tmp) (v v' : Value) (h : d ≠ d') : (a.put (some d) v).put (some d') v' = (a.put (some d') v').put (some d) v := by
  unfold Act.put
  simp only
  rw [Array.setIfInBounds_comm v v' h]
theorem anyM_both {P : Program} {ops : Array Oper} {Q : Exit → Act → World → Prop} {md : Region.Mode} {i j : Nat} {o o' : Oper} {d d' : Tmp} {f : Nat} {l : Array Bool} {a : Act} {w : World} (R R' : Value → World → Prop)
    (hr : Region.ready md ops l = [i, j]) (hr1 : Region.ready md ops (l.setIfInBounds i true) = [j]) (hr2 : Region.ready md ops (l.setIfInBounds j true) = [i]) (hij : i ≠ j)
    (hi : ops[i]? = some o) (hj : ops[j]? = some o') (hd : o.dst = some d) (hd' : o'.dst = some d') (hdd : d ≠ d') (hg : o.guard = none) (hg' : o'.guard = none)
    (hR : ∀ v w w', Ext w w' → R v w → R v w') (hR' : ∀ v w w', Ext w w' → R' v w → R' v w')
    (h : ∀ a2, (a2 = a ∨ ∃ v', a2 = a.put (some d') v') → ∀ w2, Ext w w2 → ∃ v w3, (execOp a2.eval o).run P w2 = .ok (.value v) w3 ∧ Ext w2 w3 ∧ R v w3)
    (h' : ∀ a2, (a2 = a ∨ ∃ v, a2 = a.put (some d) v) → ∀ w2, Ext w w2 → ∃ v w3, (execOp a2.eval o').run P w2 = .ok (.value v) w3 ∧ Ext w2 w3 ∧ R' v w3)
    (K : ∀ v v' w3, Ext w w3 → R v w3 → R' v' w3 → anyM P md ops Q f ((l.setIfInBounds i true).setIfInBounds j true) ((a.put (some d) v).put (some d') v') w3) : anyM P md ops Q (f + 2) l a w := by
  have wn : ∀ (o : Oper) ds, o.guard = none → Region.wanted o ds = true := fun o ds h => by simp [Region.wanted, h]
  refine anyM_two hr hi hj (wn _ _ hg) (wn _ _ hg') (fun w2 e => ?_) (fun w2 e => ?_)
  · obtain ⟨v, w3, h1, e1, r⟩ := h a (.inl rfl) w2 e
    refine ⟨v, w3, h1, e1, anyM_only hr1 hj (wn _ _ hg') (fun w4 e4 => ?_)⟩
    obtain ⟨v', w5, h2, e5, r'⟩ := h' _ (.inr ⟨v, rfl⟩) w4 (e.trans (e1.trans e4))
    refine ⟨v', w5, ?_, e5, ?_⟩
    · rw [hd]; exact h2
    · rw [hd, hd']
      exact K v v' w5 (e.trans (e1.trans (e4.trans e5))) (hR v w3 w5 (e4.trans e5) r) r'
  · obtain ⟨v', w3, h1, e1, r'⟩ := h' a (.inl rfl) w2 e
    refine ⟨v', w3, h1, e1, anyM_only hr2 hi (wn _ _ hg) (fun w4 e4 => ?_)⟩
    obtain ⟨v, w5, h2, e5, r⟩ := h _ (.inr ⟨v', rfl⟩) w4 (e.trans (e1.trans e4))
    refine ⟨v, w5, ?_, e5, ?_⟩
    · rw [hd']; exact h2
    · rw [hd, hd', ← put_comm _ _ _ _ _ hdd, Array.setIfInBounds_comm true true (fun h => hij h.symm)]
      exact K v v' w5 (e.trans (e1.trans (e4.trans e5))) r (hR' v' w3 w5 (e4.trans e5) r')
end Go.Proofs.YtjbpjoondmcnlabDoor
namespace Go.Proofs.YtjbpjoondmcnlabDoor
open Go Go.RowKit Go.BigFrame
set_option linter.unusedSimpArgs false
set_option linter.unusedVariables false
set_option maxRecDepth 100000
theorem results_tmp4 {fn : Func} {t u v x : Tmp} (h : fn.results = #[.tmp t, .tmp u, .tmp v, .tmp x]) (tmps : Array Value) (P : Program) (w : World) :
    (results fn tmps).run P w = .ok (.tuple #[tmps.getD t undef, tmps.getD u undef, tmps.getD v undef, tmps.getD x undef]) w := by
  simp [results, h]
def badOpen (k i mm : Nat) (P E : Int) : Prop := P < 1 ∨ ¬ (0 ≤ E ∧ E ≤ 4611686018427387903) ∨ ¬ (k = 16 ∧ i = 12 ∧ mm = 16)
set_option maxHeartbeats 4000000 in
theorem gopen_arg (K I M : ByteArray) (k i mm : Nat) (hK : K.size = k) (hI : I.size = i) (hM : M.size = mm) (P E : Int) (a : Option Addr) (m c : Nat) (w : World) (hbad : badOpen k i mm P E) :
    Calls Tryd.prog 14 #[.agg (kysC K I M), .slice a m c, .int .i64 P, .int .i64 E] w fun e w' => e = .returned (.tuple #[.slice none 0 0, .int .i64 0, .slice none 0 0, .int .i64 1]) ∧ Below w.heap.size w w' := by
  have R0 : (w.alloc (.cells (kysC K I M) 34)).heap[w.heap.size]? = some (.cells (kysC K I M) 34 (0, 0)) := heap_alloc_last _ _
  have hb1 : Below w.heap.size w (w.alloc (.cells (kysC K I M) 34)) := (Below.refl w.heap.size w).alloc (Nat.le_refl _) _
  have HB := Lib.hid hb1
  have NU := Lib.hid (numbers_any E (w.alloc (.cells (kysC K I M) 34)))
  have WH := Lib.hid (whole_any K I M k i mm hK hI hM (w.alloc (.cells (kysC K I M) 34)))
  obtain ⟨c0, c1, c2⟩ := kys_cells R0
  have BAD := Lib.hid hbad
  clear hbad hb1 R0 hK hI hM
  unfold kysC at *
  by_cases h1 : P < 1
  · go_enter Tryd.func14, Tryd.ntmps14
    go_wp2_with fail
    try simp only [Exit.inBlock, Exit.then]
    refine bodyPost_ret (results_tmp4 rfl _ _ _) rfl ?_
    exact ⟨rfl, HB.out⟩
  by_cases h3 : 0 ≤ E ∧ E ≤ 4611686018427387903
  · have NU2 := Lib.hid (by have := NU.out; rw [decide_eq_true h3] at this; exact this)
    have h4 : ¬ (k = 16 ∧ i = 12 ∧ mm = 16) := by
      rcases BAD.out with h | h | h
      · exact absurd h h1
      · exact absurd h3 h
      · exact h
    have WH2 := Lib.hid (by have := WH.out; rw [decide_eq_false h4] at this; exact this)
    clear BAD WH h3 h4 NU
    go_enter Tryd.func14, Tryd.ntmps14
    go_wp2_with (first
      | (go_at_call 35; refine NU2.out.mono ?_; rintro e w1 ⟨rfl, rfl⟩)
      | (go_at_call 36; refine WH2.out.mono ?_; rintro e w1 ⟨rfl, hb⟩; have B1 := Lib.hid (HB.out.trans (hb.mono HB.out.size)); clear hb))
    try simp only [Exit.inBlock, Exit.then]
    refine bodyPost_ret (results_tmp4 rfl _ _ _) rfl ?_
    exact ⟨rfl, B1.out⟩
  · have NU2 := Lib.hid (by have := NU.out; rw [decide_eq_false h3] at this; exact this)
    clear NU BAD WH h3
    go_enter Tryd.func14, Tryd.ntmps14
    go_wp2_with (go_at_call 35; refine NU2.out.mono ?_; rintro e w1 ⟨rfl, rfl⟩)
    try simp only [Exit.inBlock, Exit.then]
    refine bodyPost_ret (results_tmp4 rfl _ _ _) rfl ?_
    exact ⟨rfl, HB.out⟩
set_option maxHeartbeats 4000000 in
theorem gopen_tail (K I M : ByteArray) (hK : K.size = 16) (hI : I.size = 12) (hM : M.size = 16) (P E : Int) (h0 : 0 ≤ E) (h1 : E ≤ 4611686018427387903) (hP : 1 ≤ P) (hP2 : P ≤ 9223372036854775807) (a : Option Addr) (m c : Nat) (hm : m ≤ 4000) (ht : (m : Int) - P < 20) (w : World) :
    Calls Tryd.prog 14 #[.agg (kysC K I M), .slice a m c, .int .i64 P, .int .i64 E] w fun e w' => e = .returned (.tuple #[.slice none 0 0, .int .i64 0, .slice none 0 0, .int .i64 3]) ∧ Below w.heap.size w w' := by
  have R0 : (w.alloc (.cells (kysC K I M) 34)).heap[w.heap.size]? = some (.cells (kysC K I M) 34 (0, 0)) := heap_alloc_last _ _
  have hb1 : Below w.heap.size w (w.alloc (.cells (kysC K I M) 34)) := (Below.refl w.heap.size w).alloc (Nat.le_refl _) _
  have HB := Lib.hid hb1
  have NU2 := Lib.hid (by have := numbers_any E (w.alloc (.cells (kysC K I M) 34)); rw [decide_eq_true (show 0 ≤ E ∧ E ≤ 4611686018427387903 from ⟨h0, h1⟩)] at this; exact this)
  have WH2 := Lib.hid (by have := whole_any K I M 16 12 16 hK hI hM (w.alloc (.cells (kysC K I M) 34)); rw [decide_eq_true (show 16 = 16 ∧ 12 = 12 ∧ 16 = 16 from ⟨rfl, rfl, rfl⟩)] at this; exact this)
  obtain ⟨c0, c1, c2⟩ := kys_cells R0
  have hPn : ¬ P < 1 := by omega
  have hwr : IntKind.wrap .i64 ((m : Int) - P) = (m : Int) - P := by simp only [IntKind.wrap, IntKind.bits, IntKind.signed]; simp; omega
  clear hb1 R0 hK hI hM
  unfold kysC at *
  go_enter Tryd.func14, Tryd.ntmps14
  go_wp2_with (first
    | (go_at_call 35; refine NU2.out.mono ?_; rintro e w1 ⟨rfl, rfl⟩)
    | (go_at_call 36; refine WH2.out.mono ?_; rintro e w1 ⟨rfl, hb⟩; have B1 := Lib.hid (HB.out.trans (hb.mono HB.out.size)); clear hb))
  try simp only [Exit.inBlock, Exit.then]
  refine bodyPost_ret (results_tmp4 rfl _ _ _) rfl ?_
  exact ⟨rfl, B1.out⟩
set_option maxHeartbeats 4000000 in
theorem docOpen_arg (K I M : ByteArray) (k i mm : Nat) (hK : K.size = k) (hI : I.size = i) (hM : M.size = mm) (P E : Int) (B : ByteArray) (w : World) (hbad : badOpen k i mm P E) :
    Calls Tryd.prog 13 #[.agg (kysC K I M), .string B, .int .i64 P, .int .i64 E] w fun e w' => e = .returned (.tuple #[.string ⟨#[]⟩, .int .i64 0, .string ⟨#[]⟩, .int .i64 1]) ∧ Below w.heap.size w w' := by
  have R0 : (w.alloc (.cells (kysC K I M) 23)).heap[w.heap.size]? = some (.cells (kysC K I M) 23 (0, 0)) := heap_alloc_last _ _
  have hb1 : Below w.heap.size w (w.alloc (.cells (kysC K I M) 23)) := (Below.refl w.heap.size w).alloc (Nat.le_refl _) _
  have HB := Lib.hid hb1
  have WH := Lib.hid (right_any K I M k i mm hK hI hM (w.alloc (.cells (kysC K I M) 23)))
  obtain ⟨c0, c1, c2⟩ := kys_cells R0
  have BAD := Lib.hid hbad
  clear hbad hb1 R0 hK hI hM
  unfold kysC at *
  by_cases h1 : P < 1
  · go_enter Tryd.func13, Tryd.ntmps13
    go_wp2_with fail
    try simp only [Exit.inBlock, Exit.then]
    refine bodyPost_ret (results_tmp4 rfl _ _ _) rfl ?_
    exact ⟨rfl, HB.out⟩
  by_cases h2 : E < 0
  · go_enter Tryd.func13, Tryd.ntmps13
    go_wp2_with fail
    try simp only [Exit.inBlock, Exit.then]
    refine bodyPost_ret (results_tmp4 rfl _ _ _) rfl ?_
    exact ⟨rfl, HB.out⟩
  by_cases h3 : E > 4611686018427387903
  · go_enter Tryd.func13, Tryd.ntmps13
    go_wp2_with fail
    try simp only [Exit.inBlock, Exit.then]
    refine bodyPost_ret (results_tmp4 rfl _ _ _) rfl ?_
    exact ⟨rfl, HB.out⟩
  have h4 : ¬ (k = 16 ∧ i = 12 ∧ mm = 16) := by
    rcases BAD.out with h | h | h
    · exact absurd h h1
    · exact absurd ⟨by omega, by omega⟩ h
    · exact h
  have WH2 := Lib.hid (by have := WH.out; rw [decide_eq_false h4] at this; exact this)
  clear BAD WH h4
  go_enter Tryd.func13, Tryd.ntmps13
  go_wp2_with (go_at_call 21; refine WH2.out.mono ?_; rintro e w1 ⟨rfl, hb⟩; have B1 := Lib.hid (HB.out.trans (hb.mono HB.out.size)); clear hb)
  try simp only [Exit.inBlock, Exit.then]
  refine bodyPost_ret (results_tmp4 rfl _ _ _) rfl ?_
  exact ⟨rfl, B1.out⟩
set_option maxHeartbeats 4000000 in
theorem docOpen_tail (K I M : ByteArray) (hK : K.size = 16) (hI : I.size = 12) (hM : M.size = 16) (P E : Int) (h0 : 0 ≤ E) (h1 : E ≤ 4611686018427387903) (hP : 1 ≤ P) (hP2 : P ≤ 9223372036854775807) (B : ByteArray) (m : Nat) (hB : B.size = m) (hm : m ≤ 4000) (ht : (m : Int) - P < 20) (w : World) :
    Calls Tryd.prog 13 #[.agg (kysC K I M), .string B, .int .i64 P, .int .i64 E] w fun e w' => e = .returned (.tuple #[.string ⟨#[]⟩, .int .i64 0, .string ⟨#[]⟩, .int .i64 3]) ∧ Below w.heap.size w w' := by
  have R0 : (w.alloc (.cells (kysC K I M) 23)).heap[w.heap.size]? = some (.cells (kysC K I M) 23 (0, 0)) := heap_alloc_last _ _
  have hb1 : Below w.heap.size w (w.alloc (.cells (kysC K I M) 23)) := (Below.refl w.heap.size w).alloc (Nat.le_refl _) _
  have HB := Lib.hid hb1
  have WH2 := Lib.hid (by have := right_any K I M 16 12 16 hK hI hM (w.alloc (.cells (kysC K I M) 23)); rw [decide_eq_true (show 16 = 16 ∧ 12 = 12 ∧ 16 = 16 from ⟨rfl, rfl, rfl⟩)] at this; exact this)
  obtain ⟨c0, c1, c2⟩ := kys_cells R0
  have hPn : ¬ P < 1 := by omega
  have hE1 : ¬ E < 0 := by omega
  have hE2 : ¬ E > 4611686018427387903 := by omega
  have hwr : IntKind.wrap .i64 ((m : Int) - P) = (m : Int) - P := by simp only [IntKind.wrap, IntKind.bits, IntKind.signed]; simp; omega
  clear hb1 R0 hK hI hM
  unfold kysC at *
  by_cases hgt : P > (m : Int)
  all_goals
    go_enter Tryd.func13, Tryd.ntmps13
    go_wp2_with (go_at_call 21; refine WH2.out.mono ?_; rintro e w1 ⟨rfl, hb⟩; have B1 := Lib.hid (HB.out.trans (hb.mono HB.out.size)); clear hb)
    try simp only [Exit.inBlock, Exit.then]
    refine bodyPost_ret (results_tmp4 rfl _ _ _) rfl ?_
    exact ⟨rfl, B1.out⟩
end Go.Proofs.YtjbpjoondmcnlabDoor
namespace Go.Proofs.YtjbpjoondmcnlabDoor
open Go Go.RowKit Go.BigFrame
set_option linter.unusedSimpArgs false
set_option linter.unusedVariables false
set_option maxRecDepth 100000
theorem Own.rowAt {B n : Nat} {v : Value} {f : Nat → BitVec 8} {w : World} (h : Own B v n f w) (hn : 0 < n) : ∃ g c, v = .slice (some ⟨g, 0, Option.none⟩) n c ∧ B ≤ g ∧ n ≤ c ∧ c ≤ maxLen ∧ RowAt w g 0 n f := by
  rcases h.row.2 with ⟨h0, _⟩ | ⟨g, cap, cur, rfl, hB, hg, hnc, hcm, hcs, ht⟩
  · omega
  · refine ⟨g, cap, rfl, hB, hnc, hcm, cur, (0, 0), hg, .inl rfl, by rw [hcs]; omega, fun i hi => ?_⟩
    have h1 := h.row.cells (g := g) rfl i (.int .u8 (n8 (f i))) (firsts_get _ _ _ hi)
    have h2 : w.cell? ⟨g, i, Option.none⟩ = some (.int .u8 (n8 (f i))) := by
      have e : ((⟨g, 0, Option.none⟩ : Addr).add i) = ⟨g, i, Option.none⟩ := by unfold Addr.add; split <;> simp_all
      rw [e] at h1
      exact h1
    rw [cell_of_row _ _ _ _ _ _ hg] at h2
    rw [Nat.zero_add]
    exact h2
set_option maxHeartbeats 4000000 in
theorem clone_any (b o n c : Nat) (f : Nat → BitVec 8) (w : World) (h : BytesIn w (some ⟨b, o, none⟩) n f) (hn : n ≤ 100000) :
    Calls Tryd.prog 37 #[.slice (some ⟨b, o, none⟩) n c] w fun e w' => ∃ v, e = .returned v ∧ Own w.heap.size v n f w' ∧ Below w.heap.size w w' := by
  have E1 := Lib.hid (Own.empty (B := w.heap.size) f w (Nat.le_refl _))
  have hal := (Below.refl w.heap.size w).alloc (Nat.le_refl _) (.cells #[] 5)
  have AL := Lib.hid hal
  have S1 := Lib.hid (src_in (bytesIn_later h hal) c)
  have heq : ∀ w', (binOp .eql 31 (.slice (some ⟨b, o, none⟩) n c) (.slice none 0 0)).run Tryd.prog w' = .ok (.bool false) w' := fun w' => run_eql_slice_nil w' 31 5 (some ⟨b, o, none⟩) n c under_bytes
  clear h hal
  go_enter Tryd.func37, Tryd.ntmps37
  go_wp2_with (at_builtin; refine wpList_append_bytes (o := ⟨some 7, _, _, _, _, _⟩) rfl _ _ 31 rfl rfl rfl E1.out S1.out (by omega) ?_; intro v5 w5 ho5 hg5; rw [Nat.zero_add] at ho5; have O5 := Lib.hid ho5; have G5 := Lib.hid (AL.out.trans (hg5.below E1.out)); clear ho5 hg5)
  go_ret
  exact ⟨v5, rfl, O5.out.congr (fun i hi => by unfold joinb; rw [if_neg (by omega), Nat.sub_zero]), G5.out⟩
set_option maxHeartbeats 8000000 in
theorem opened_any (k iv mk g xs : Nat → BitVec 8) (N : Int) (h0 : 0 ≤ N) (h1 : N ≤ 4611686018427387903) (a a' : Option Addr) (n c m c' : Nat) (hn : n ≤ c) (hcm : c ≤ maxLen) (hm : m ≤ 65000) (hmc : m + 16 ≤ c') (hcm' : c' ≤ maxLen) (w : World) (hg : BytesIn w a n g) (hx : BytesIn w a' (m + 16) xs) :
    Calls Tryd.prog 40 #[.agg (kysC (strOf k 16) (strOf iv 12) (strOf mk 16)), .slice a n c, .int .i64 N, .slice a' (m + 16) c'] w
      fun e w' => Below w.heap.size w w' ∧ ((openE (sched k) (hOf (sched k)) (nonTo iv N 8) g n xs m = true ∧ ∃ r, e = .returned (.tuple #[.slice (some ⟨r, 0, none⟩) m m, .int .i64 0]) ∧ w.heap.size ≤ r ∧ BytesIn w' (some ⟨r, 0, none⟩) m (hid (sched k) (nonTo iv N 8) xs))
        ∨ (openE (sched k) (hOf (sched k)) (nonTo iv N 8) g n xs m = false ∧ e = .returned (.tuple #[.slice none 0 0, .int .i64 4]))) := by
  have R0 : (w.alloc (.cells (kysC (strOf k 16) (strOf iv 12) (strOf mk 16)) 34)).heap[w.heap.size]? = some (.cells (kysC (strOf k 16) (strOf iv 12) (strOf mk 16)) 34 (0, 0)) := heap_alloc_last _ _
  have hb1 : Below w.heap.size w (w.alloc (.cells (kysC (strOf k 16) (strOf iv 12) (strOf mk 16)) 34)) := (Below.refl w.heap.size w).alloc (Nat.le_refl _) _
  have HB := Lib.hid hb1
  have HL := Lib.hid (show w.heap.size < (w.alloc (.cells (kysC (strOf k 16) (strOf iv 12) (strOf mk 16)) 34)).heap.size by simp)
  have CC := Lib.hid (kys_cells R0)
  have HG := Lib.hid hg
  have HX := Lib.hid hx
  have CV := Lib.hid (fun w' : World => conv_ownZ k 16 (by omega) w' w'.heap.size (Nat.le_refl _))
  have NO := Lib.hid (fun w' => nonce_any iv N h0 h1 w')
  have hmI : ¬ (65016 : Int) < (m : Int) + 16 := by omega
  clear hg hx hb1 R0
  unfold kysC at *
  generalize strOf k 16 = SK at *
  generalize strOf iv 12 = SI at *
  generalize strOf mk 16 = SM at *
  obtain ⟨c0, c1, c2⟩ := CC.out
  go_enter Tryd.func40, Tryd.ntmps40
  go_upto_region 3 with (fail)
  generalize w.alloc _ = w1 at *
  obtain ⟨v2, w2, hcv, o2, b2⟩ := CV.out w1
  obtain ⟨g2, cg2, rfl, hg2, hcg2, hcm2, rz2⟩ := o2.rowZ (by omega)
  have N2 := Lib.hid (gnew_ok k g2 0 cg2 w2 (fun i hi => by rw [Nat.zero_add]; exact rz2.at i hi) rz2.lt)
  have B2 := Lib.hid (Below.trans HB.out (b2.mono HB.out.size))
  have b2' := Lib.hid b2
  clear o2 rz2 b2 CV
  go_upto_region 4 with (go_at_call 26; refine N2.out.mono ?_; rintro e w3 ⟨p, q, rfl, hp, hb, bx⟩; have b3 := Lib.hid (b2'.out.trans (hb.mono b2'.out.size)); have B3 := Lib.hid (B2.out.trans (hb.mono B2.out.size)); have BX := Lib.hid bx; clear hp hb bx)
  clear hcv c0 c1 c2 N2 b2'
  have e1 := (b3.out.cell (p := ⟨w.heap.size, 1, none⟩) HL.out).trans CC.out.2.1
  have NO3 := Lib.hid (NO.out w3)
  clear NO
  go_wp2_with (go_at_call 28; refine NO3.out.mono ?_; rintro e w4 ⟨g4, c4, rfl, hg4, hc4, hcm4, rz4, hb4⟩; have RZ4 := Lib.hid rz4; have B4' := Lib.hid hb4; clear rz4 hb4)
  have B4 := Lib.hid (B3.out.trans (B4'.out.mono B3.out.size))
  refine (gopen_ok p q (sched k) (hOf (sched k)) (nonTo iv N 8) g xs g4 0 c4 a a' n c m c' w4 (BX.out.later B4'.out) (fun i hi => by rw [Nat.zero_add]; exact RZ4.out.at i hi) RZ4.out.lt (bytesIn_later HG.out B4.out) hn hcm (bytesIn_later HX.out B4.out) hmc (by omega) hcm').mono ?_
  rintro e w5 ⟨hb5, ⟨hE, r, rfl, hr, row⟩ | ⟨hE, rfl⟩⟩
  · have B5 := Lib.hid (B4.out.trans (hb5.mono B4.out.size))
    have HE := Lib.hid hE
    have RR := Lib.hid row
    have HR := Lib.hid (Nat.le_trans B4.out.size hr)
    clear hE row hr hb5
    go_wp2_with fail
    go_ret2
    exact ⟨B5.out, .inl ⟨HE.out, r, rfl, HR.out, in_row (by unfold maxLen; omega) RR.out⟩⟩
  · have B5 := Lib.hid (B4.out.trans (hb5.mono B4.out.size))
    have HE := Lib.hid hE
    clear hE hb5
    go_wp2_with fail
    go_ret2
    exact ⟨B5.out, .inr ⟨HE.out, rfl⟩⟩
end Go.Proofs.YtjbpjoondmcnlabDoor
namespace Go.Proofs.YtjbpjoondmcnlabDoor
open Go Go.RowKit Go.BigFrame
set_option linter.unusedSimpArgs false
set_option linter.unusedVariables false
set_option maxRecDepth 100000
theorem run_upto_at (w : World) (a : Option Addr) (k m c : Nat) (K : Int) (hK : K = (k : Int)) (hk : k ≤ m) (hm : m ≤ c) : (Instr.sliceAt 31 (.slice a m c) none (some (.int .i64 K)) none).run Tryd.prog w = .ok (.slice a k c) w := by
  subst hK
  exact run_upto_b w a k m c hk hm
/-- How many bytes the number has; the number; whether the body's seal is right; what the body carries. -/
def opnS (mk f : Nat → BitVec 8) (p : Nat) : Nat := (veilF (f 0) (mskF mk (fun i => f (p + i)) 0)).toNat % 4 + 1
def opnN (mk f : Nat → BitVec 8) (p s : Nat) (E : Int) : Int := wholeF (256 ^ s) ((numG (fun i => hidP mk f p s (p + i)) s : Nat) : Int) E
def opnOk (k iv mk f : Nat → BitVec 8) (E : Int) (p L s : Nat) : Bool := openE (sched k) (hOf (sched k)) (nonTo iv (opnN mk f p s E) 8) (hidP mk f p s) (p + s) (fun i => f (p + s + i)) (L - (p + s) - 16)
def opnC (k iv mk f : Nat → BitVec 8) (E : Int) (p s : Nat) : Nat → BitVec 8 := hid (sched k) (nonTo iv (opnN mk f p s E) 8) (fun i => f (p + s + i))
theorem wholeF_in (s : Nat) (hs1 : 1 ≤ s) (hs4 : s ≤ 4) (low E : Int) (l0 : 0 ≤ low) (l1 : low < 256 ^ s) (h0 : 0 ≤ E) (h1 : E ≤ 4611686018427387903) : 0 ≤ wholeF (256 ^ s) low E ∧ wholeF (256 ^ s) low E ≤ 4611686018427387903 := by
  obtain rfl | rfl | rfl | rfl : s = 1 ∨ s = 2 ∨ s = 3 ∨ s = 4 := by omega
  all_goals
    unfold wholeF
    split
    · omega
    · split <;> omega
theorem numG_ltI (g : Nat → BitVec 8) (s : Nat) : ((numG g s : Nat) : Int) < 256 ^ s := by
  have h := numG_lt g s
  have e : ((256 : Int) ^ s) = ((256 ^ s : Nat) : Int) := by simp
  rw [e]
  exact Int.ofNat_lt.2 h
set_option maxHeartbeats 16000000 in
theorem gopen_any (k iv mk f : Nat → BitVec 8) (E : Int) (h0 : 0 ≤ E) (h1 : E ≤ 4611686018427387903) (p L s : Nat) (hp : 1 ≤ p) (hL : p + 20 ≤ L) (hL2 : L ≤ 4000) (hs : opnS mk f p = s) (bb bo c : Nat) (hc : L ≤ c) (hcm : c ≤ maxLen) (w : World) (hf : BytesIn w (some ⟨bb, bo, none⟩) L f) :
    Calls Tryd.prog 14 #[.agg (kysC (strOf k 16) (strOf iv 12) (strOf mk 16)), .slice (some ⟨bb, bo, none⟩) L c, .int .i64 (p : Int), .int .i64 E] w
      fun e w' => Below w.heap.size w w' ∧ ((opnOk k iv mk f E p L s = true ∧ ∃ g ch r, e = .returned (.tuple #[.slice (some ⟨g, 0, none⟩) (p + s) ch, .int .i64 (opnN mk f p s E), .slice (some ⟨r, 0, none⟩) (L - (p + s) - 16) (L - (p + s) - 16), .int .i64 0])
          ∧ p + s ≤ ch ∧ ch ≤ maxLen ∧ BytesIn w' (some ⟨g, 0, none⟩) (p + s) (hidP mk f p s) ∧ BytesIn w' (some ⟨r, 0, none⟩) (L - (p + s) - 16) (opnC k iv mk f E p s))
        ∨ (opnOk k iv mk f E p L s = false ∧ e = .returned (.tuple #[.slice none 0 0, .int .i64 0, .slice none 0 0, .int .i64 4]))) := by
  have R0 : (w.alloc (.cells (kysC (strOf k 16) (strOf iv 12) (strOf mk 16)) 34)).heap[w.heap.size]? = some (.cells (kysC (strOf k 16) (strOf iv 12) (strOf mk 16)) 34 (0, 0)) := heap_alloc_last _ _
  have hb1 : Below w.heap.size w (w.alloc (.cells (kysC (strOf k 16) (strOf iv 12) (strOf mk 16)) 34)) := (Below.refl w.heap.size w).alloc (Nat.le_refl _) _
  have HB := Lib.hid hb1
  have HL := Lib.hid (show w.heap.size < (w.alloc (.cells (kysC (strOf k 16) (strOf iv 12) (strOf mk 16)) 34)).heap.size by simp)
  have CC := Lib.hid (kys_cells R0)
  have NU2 := Lib.hid (by have := numbers_any E (w.alloc (.cells (kysC (strOf k 16) (strOf iv 12) (strOf mk 16)) 34)); rw [decide_eq_true (show 0 ≤ E ∧ E ≤ 4611686018427387903 from ⟨h0, h1⟩)] at this; exact this)
  have WH2 := Lib.hid (by have := whole_any (strOf k 16) (strOf iv 12) (strOf mk 16) 16 12 16 (strOf_size _ _) (strOf_size _ _) (strOf_size _ _) (w.alloc (.cells (kysC (strOf k 16) (strOf iv 12) (strOf mk 16)) 34)); rw [decide_eq_true (show 16 = 16 ∧ 12 = 12 ∧ 16 = 16 from ⟨rfl, rfl, rfl⟩)] at this; exact this)
  have hbl : bb < w.heap.size := by
    rcases hf.2 with h | ⟨b', o', e', hlt, _⟩
    · omega
    · injection e' with e'; injection e' with e1 _; omega
  have HBB := Lib.hid hbl
  have hcell : ∀ i, i < L → w.cell? ⟨bb, bo + i, none⟩ = some (.int .u8 (n8 (f i))) := by
    rcases hf.2 with h | ⟨b', o', e', _, hcc⟩
    · omega
    · injection e' with e'; injection e' with e1 e2; subst e1 e2; exact hcc
  have HC := Lib.hid hcell
  have HF0 := Lib.hid (show w.cell? ⟨bb, bo, none⟩ = some (.int .u8 (n8 (f 0))) from hcell 0 (by omega))
  have hsr : 1 ≤ s ∧ s ≤ 4 := by unfold opnS at hs; omega
  obtain ⟨hs1, hs4⟩ := hsr
  obtain ⟨m, hm⟩ : ∃ m, L - (p + s) - 16 = m := ⟨_, rfl⟩
  have hLm : L - (p + s) = m + 16 := by omega
  have MS := Lib.hid (fun (a : Option Addr) (c' : Nat) (hc' : L - p ≤ c') (w' : World) (h : BytesIn w' a (L - p) (fun i => f (p + i))) => mask_any mk (fun i => f (p + i)) (strOf k 16) (strOf iv 12) a (L - p) c' (by omega) hc' w' h)
  have hnn := wholeF_in s hs1 hs4 ((numG (fun i => hidP mk f p s (p + i)) s : Nat) : Int) E (by omega) (numG_ltI _ s) h0 h1
  have OP := Lib.hid (fun (a a' : Option Addr) (ch c' : Nat) (hch : p + s ≤ ch) (hchm : ch ≤ maxLen) (hc' : m + 16 ≤ c') (hcm' : c' ≤ maxLen) (w' : World) (hg : BytesIn w' a (p + s) (hidP mk f p s)) (hx : BytesIn w' a' (m + 16) (fun i => f (p + s + i))) =>
    opened_any k iv mk (hidP mk f p s) (fun i => f (p + s + i)) (opnN mk f p s E) hnn.1 hnn.2 a a' (p + s) ch m c' hch hchm (by omega) hc' hcm' w' hg hx)
  have WL := Lib.hid (fun w' => gwhole_any s hs1 hs4 ((numG (fun i => hidP mk f p s (p + i)) s : Nat) : Int) E (by omega) (numG_ltI _ s) h0 h1 w')
  have VO := Lib.hid (fun (a : Option Addr) (c' : Nat) (w' : World) (h : BytesIn w' a s (fun i => hidP mk f p s (p + i))) => valueOf_any a s c' (fun i => hidP mk f p s (p + i)) hs4 w' h)
  have DOk : opnOk k iv mk f E p L s = openE (sched k) (hOf (sched k)) (nonTo iv (opnN mk f p s E) 8) (hidP mk f p s) (p + s) (fun i => f (p + s + i)) m := by unfold opnOk; rw [hm]
  have DC : opnC k iv mk f E p s = hid (sched k) (nonTo iv (opnN mk f p s E) 8) (fun i => f (p + s + i)) := rfl
  have DN : wholeF (256 ^ s) ((numG (fun i => hidP mk f p s (p + i)) s : Nat) : Int) E = opnN mk f p s E := rfl
  rw [DN] at WL
  rw [hm, DOk, DC]
  clear DOk DC DN hnn
  generalize opnN mk f p s E = NN at *
  generalize numG (fun i => hidP mk f p s (p + i)) s = LOW at *
  have hHP : hidP mk f p s = togF (updb f 0 (veilF (f 0) (mskF mk (fun i => f (p + i)) 0))) (fun i => mskF mk (fun i => f (p + i)) (1 + i)) p s := rfl
  unfold opnS at hs
  have hand := and3 (veilF (f 0) (mskF mk (fun i => f (p + i)) 0))
  generalize hidP mk f p s = HP at *
  generalize mskF mk (fun i => f (p + i)) = M at *
  generalize hvv : veilF (f 0) (M 0) = VV at *
  have hand2 : n8 (VV &&& 3#8) = (s : Int) - 1 := by rw [hand]; omega
  have HH := Lib.hid hHP
  have VE := Lib.hid hvv
  have hpL : ¬ (L : Int) - (p : Int) < 20 := by omega
  have hPn : ¬ (p : Int) < 1 := by omega
  have hwr : IntKind.wrap .i64 ((L : Int) - (p : Int)) = (L : Int) - (p : Int) := by simp only [IntKind.wrap, IntKind.bits, IntKind.signed]; simp; omega
  have hwps : IntKind.wrap .i64 ((p : Int) + (s : Int)) = (p : Int) + (s : Int) := by simp only [IntKind.wrap, IntKind.bits, IntKind.signed]; simp; omega
  obtain ⟨c0, c1, c2⟩ := CC.out
  clear hf hb1 R0 hbl hcell hs hand hHP hvv hm
  unfold kysC at *
  generalize strOf k 16 = SK at *
  generalize strOf iv 12 = SI at *
  generalize strOf mk 16 = SM at *
  go_enter Tryd.func14, Tryd.ntmps14
  go_upto_region 5 with (first
    | (go_at_call 35; refine NU2.out.mono ?_; rintro e w1 ⟨rfl, rfl⟩)
    | (go_at_call 36; refine WH2.out.mono ?_; rintro e w1 ⟨rfl, hb⟩; have B1 := Lib.hid (HB.out.trans (hb.mono HB.out.size)); have L1 := Lib.hid (Nat.lt_of_lt_of_le HL.out hb.size); have c1' := Lib.hid (fun (i : Nat) => hb.cell (p := ⟨w.heap.size, i, none⟩) HL.out); clear hb))
  have K1 := Lib.hid (show w1.cell? ⟨w.heap.size, 0, none⟩ = some (.string SK) ∧ w1.cell? ⟨w.heap.size, 1, none⟩ = some (.string SI) ∧ w1.cell? ⟨w.heap.size, 2, none⟩ = some (.string SM) from ⟨(c1'.out 0).trans CC.out.1, (c1'.out 1).trans CC.out.2.1, (c1'.out 2).trans CC.out.2.2⟩)
  clear c1' CC c0 c1 c2 HB HL NU2 WH2
  have F41 := Lib.hid (fun w' => run_from_at w' bb bo p L c (p : Int) rfl (by omega) hc)
  refine region_anyM mixedOrders ?_
  refine anyM_take (i := 0) (oi := ⟨some 38, _, _, _, _, _⟩) (v := .agg #[.string SK, .string SI, .string SM]) rfl (by kernel_rfl) (by kernel_rfl) (by kernel_rfl) (fun _ _ _ h => h) (.inl ⟨by rfl, fun w2 hw2 => ?_⟩) ?_
  · have hx : Below w1.drew.heap.size w1.drew w2 := hw2
    have hc0 := (hx.cell (p := ⟨w.heap.size, 0, none⟩) L1.out).trans K1.out.1
    have hc1 := (hx.cell (p := ⟨w.heap.size, 1, none⟩) L1.out).trans K1.out.2.1
    have hc2 := (hx.cell (p := ⟨w.heap.size, 2, none⟩) L1.out).trans K1.out.2.2
    clear hw2 hx
    go_simp
  simp only [Act.put, List.setIfInBounds_toArray, List.set_cons_succ, List.set_cons_zero]
  refine anyM_take (i := 1) (oi := ⟨some 39, _, _, _, _, _⟩) (v := .slice (some ⟨bb, bo, none⟩) L c) rfl (by kernel_rfl) (by kernel_rfl) (by kernel_rfl) (fun _ _ _ h => h) (.inl ⟨by rfl, fun w2 hw2 => ?_⟩) ?_
  · clear hw2
    go_simp
  simp only [Act.put, List.setIfInBounds_toArray, List.set_cons_succ, List.set_cons_zero]
  refine anyM_take (i := 2) (oi := ⟨some 40, _, _, _, _, _⟩) (v := .int .i64 (p : Int)) rfl (by kernel_rfl) (by kernel_rfl) (by kernel_rfl) (fun _ _ _ h => h) (.inl ⟨by rfl, fun w2 hw2 => ?_⟩) ?_
  · clear hw2
    go_simp
  simp only [Act.put, List.setIfInBounds_toArray, List.set_cons_succ, List.set_cons_zero]
  refine anyM_take (i := 3) (oi := ⟨some 41, _, _, _, _, _⟩) (v := .slice (some ⟨bb, bo + p, none⟩) (L - p) (c - p)) rfl (by kernel_rfl) (by kernel_rfl) (by kernel_rfl) (fun _ _ _ h => h) (.inl ⟨by rfl, fun w2 hw2 => ?_⟩) ?_
  · have hf := F41.out
    clear hw2
    go_simp
  simp only [Act.put, List.setIfInBounds_toArray, List.set_cons_succ, List.set_cons_zero]
  refine anyM_call (i := 4) (o := ⟨some 42, _, _, _, _, _⟩) 30 #[.agg #[.string SK, .string SI, .string SM], .slice (some ⟨bb, bo + p, none⟩) (L - p) (c - p)] (by kernel_rfl) rfl (by rfl) (fun w2 => by go_simp) (fun w8 hw8 => ?_)
  have b8 := Lib.hid (ext_below hw8 B1.out.drew B1.out.drew.size)
  refine (MS.out (some ⟨bb, bo + p, none⟩) (c - p) (by omega) w8 ⟨by unfold maxLen; omega, .inr ⟨bb, bo + p, rfl, Nat.lt_of_lt_of_le HBB.out b8.out.size, fun i hi => by rw [b8.out.cell (p := ⟨bb, bo + p + i, none⟩) HBB.out, Nat.add_assoc]; exact HC.out (p + i) (by omega)⟩⟩).mono ?_
  rintro e w9 ⟨r, rfl, hr9, hm9, hb9⟩
  refine ⟨_, rfl, hb9, ?_⟩
  have M9 := Lib.hid hm9
  have B9 := Lib.hid (b8.out.trans (hb9.mono b8.out.size))
  have hx9 : Below w1.drew.heap.size w1.drew w9 := (show Below w1.drew.heap.size w1.drew w8 from hw8).trans (hb9.mono (show Below w1.drew.heap.size w1.drew w8 from hw8).size)
  have K9 := Lib.hid (show w9.cell? ⟨w.heap.size, 0, none⟩ = some (.string SK) ∧ w9.cell? ⟨w.heap.size, 1, none⟩ = some (.string SI) ∧ w9.cell? ⟨w.heap.size, 2, none⟩ = some (.string SM) from
    ⟨(hx9.cell (p := ⟨w.heap.size, 0, none⟩) L1.out).trans K1.out.1, (hx9.cell (p := ⟨w.heap.size, 1, none⟩) L1.out).trans K1.out.2.1, (hx9.cell (p := ⟨w.heap.size, 2, none⟩) L1.out).trans K1.out.2.2⟩)
  have L9 := Lib.hid (Nat.lt_of_lt_of_le L1.out hx9.size)
  have HRW := Lib.hid (Nat.le_trans b8.out.size hr9)
  clear hw8 b8 hm9 hb9 hx9 hr9 MS F41 K1 L1 B1
  simp only [Act.put, List.setIfInBounds_toArray, List.set_cons_succ, List.set_cons_zero]
  refine anyM_take (i := 5) (oi := ⟨some 37, _, _, _, _, _⟩) (v := .tuple #[.slice (some ⟨r, 0, none⟩) 16 16, .int .i64 0]) rfl (by kernel_rfl) (by kernel_rfl) (by kernel_rfl) (fun _ _ _ h => h) (.inl ⟨by rfl, fun w2 hw2 => ?_⟩) ?_
  · clear hw2
    go_simp
  simp only [Act.put, List.setIfInBounds_toArray, List.set_cons_succ, List.set_cons_zero]
  refine anyM_take (i := 6) (oi := ⟨some 43, _, _, _, _, _⟩) (v := .slice (some ⟨r, 0, none⟩) 16 16) rfl (by kernel_rfl) (by kernel_rfl) (by kernel_rfl) (fun _ _ _ h => h) (.inl ⟨by rfl, fun w2 hw2 => ?_⟩) ?_
  · clear hw2
    go_simp
  simp only [Act.put, List.setIfInBounds_toArray, List.set_cons_succ, List.set_cons_zero]
  refine anyM_take (i := 7) (oi := ⟨some 44, _, _, _, _, _⟩) (v := .int .i64 0) rfl (by kernel_rfl) (by kernel_rfl) (by kernel_rfl) (fun _ _ _ h => h) (.inl ⟨by rfl, fun w2 hw2 => ?_⟩) ?_
  · clear hw2
    go_simp
  simp only [Act.put, List.setIfInBounds_toArray, List.set_cons_succ, List.set_cons_zero]
  refine anyM_take (i := 8) (oi := ⟨some 12, _, _, _, _, _⟩) (v := .slice (some ⟨r, 0, none⟩) 16 16) rfl (by kernel_rfl) (by kernel_rfl) (by kernel_rfl) (fun _ _ _ h => h) (.inl ⟨by rfl, fun w2 hw2 => ?_⟩) ?_
  · clear hw2
    go_simp
  simp only [Act.put, List.setIfInBounds_toArray, List.set_cons_succ, List.set_cons_zero]
  refine anyM_take (i := 9) (oi := ⟨some 13, _, _, _, _, _⟩) (v := .int .i64 0) rfl (by kernel_rfl) (by kernel_rfl) (by kernel_rfl) (fun _ _ _ h => h) (.inl ⟨by rfl, fun w2 hw2 => ?_⟩) ?_
  · clear hw2
    go_simp
  simp only [Act.put, List.setIfInBounds_toArray, List.set_cons_succ, List.set_cons_zero]
  refine anyM_done (by kernel_rfl) (fun w10 hw10 => ?_)
  have b10 : Below w9.heap.size w9 w10 := hw10
  have MB := Lib.hid (bytesIn_later M9.out b10)
  have B10 := Lib.hid (B9.out.trans (b10.mono B9.out.size))
  have K10 := Lib.hid (show w10.cell? ⟨w.heap.size, 0, none⟩ = some (.string SK) ∧ w10.cell? ⟨w.heap.size, 1, none⟩ = some (.string SI) ∧ w10.cell? ⟨w.heap.size, 2, none⟩ = some (.string SM) from
    ⟨(b10.cell (p := ⟨w.heap.size, 0, none⟩) L9.out).trans K9.out.1, (b10.cell (p := ⟨w.heap.size, 1, none⟩) L9.out).trans K9.out.2.1, (b10.cell (p := ⟨w.heap.size, 2, none⟩) L9.out).trans K9.out.2.2⟩)
  have L10 := Lib.hid (Nat.lt_of_lt_of_le L9.out b10.size)
  clear hw10 b10 M9 B9 K9 L9
  go_upto_region 8 with (fail)
  have hm0 := (MB.out).2
  have CR := Lib.hid (show (∀ i, i < 16 → w10.cell? ⟨r, i, none⟩ = some (.int .u8 (n8 (M i)))) ∧ r < w10.heap.size by
    rcases hm0 with h | ⟨b', o', e', hlt', hc'⟩
    · omega
    · injection e' with e'
      injection e' with e1 e2
      subst e1 e2
      exact ⟨fun i hi => by have := hc' i hi; rwa [Nat.zero_add] at this, hlt'⟩)
  clear hm0 MB
  have hLI : (0 : Int) < (L : Int) := by omega
  have hLN : 0 < L := by omega
  refine region_class1 7 (fun w' => Below w10.heap.size w10 w') mixedOrders (by kernel_rfl) (Below.refl _ _).drew rfl ?_
  refine wpQuiet_take (by rfl) (fun K hK => ⟨.slice (some ⟨bb, bo, none⟩) L c, fun w2' hw2 => ?_, hK _ ?_⟩)
  · clear hw2; go_simp
  clear hK K
  simp only [Act.put, List.setIfInBounds_toArray, List.set_cons_succ, List.set_cons_zero]
  refine wpQuiet_take (by rfl) (fun K hK => ⟨.pointer (some ⟨bb, bo, none⟩), fun w2' hw2 => ?_, hK _ ?_⟩)
  · clear hw2; go_simp
  clear hK K
  simp only [Act.put, List.setIfInBounds_toArray, List.set_cons_succ, List.set_cons_zero]
  refine wpQuiet_take (by rfl) (fun K hK => ⟨.int .u8 (n8 (f 0)), fun w2' hw2 => ?_, hK _ ?_⟩)
  · have hc := ((B10.out.trans (hw2.mono B10.out.size)).cell (p := ⟨bb, bo, none⟩) HBB.out).trans HF0.out
    clear hw2
    go_simp
  clear hK K
  simp only [Act.put, List.setIfInBounds_toArray, List.set_cons_succ, List.set_cons_zero]
  refine wpQuiet_take (by rfl) (fun K hK => ⟨.slice (some ⟨r, 0, none⟩) 16 16, fun w2' hw2 => ?_, hK _ ?_⟩)
  · clear hw2; go_simp
  clear hK K
  simp only [Act.put, List.setIfInBounds_toArray, List.set_cons_succ, List.set_cons_zero]
  refine wpQuiet_take (by rfl) (fun K hK => ⟨.pointer (some ⟨r, 0, none⟩), fun w2' hw2 => ?_, hK _ ?_⟩)
  · clear hw2; go_simp
  clear hK K
  simp only [Act.put, List.setIfInBounds_toArray, List.set_cons_succ, List.set_cons_zero]
  refine wpQuiet_take (by rfl) (fun K hK => ⟨.int .u8 (n8 (M 0)), fun w2' hw2 => ?_, hK _ ?_⟩)
  · have hc := (hw2.cell (p := ⟨r, 0, none⟩) CR.out.2).trans (CR.out.1 0 (by omega))
    clear hw2
    go_simp
  clear hK K
  simp only [Act.put, List.setIfInBounds_toArray, List.set_cons_succ, List.set_cons_zero]
  refine wpQuiet_take (by rfl) (fun K hK => ⟨.int .u8 (n8 VV), fun w2' hw2 => ?_, hK _ ?_⟩)
  · go_simp
    go_at_call 31
    refine (veiled_any (f 0) (M 0) w2').mono ?_
    rintro e w5 ⟨rfl, rfl⟩
    rw [VE.out]
    exact ⟨rfl, hw2⟩
  clear hK K
  simp only [Act.put, List.setIfInBounds_toArray, List.set_cons_succ, List.set_cons_zero]
  refine wpQuiet_take0 ?_
  intro w11 hb11
  have B11 := Lib.hid (B10.out.trans (hb11.mono B10.out.size))
  have C11 := Lib.hid (show (∀ i, i < 16 → w11.cell? ⟨r, i, none⟩ = some (.int .u8 (n8 (M i)))) ∧ r < w11.heap.size from ⟨fun i hi => (hb11.cell (p := ⟨r, i, none⟩) CR.out.2).trans (CR.out.1 i hi), Nat.lt_of_lt_of_le CR.out.2 hb11.size⟩)
  have K11 := Lib.hid (show w11.cell? ⟨w.heap.size, 0, none⟩ = some (.string SK) ∧ w11.cell? ⟨w.heap.size, 1, none⟩ = some (.string SI) ∧ w11.cell? ⟨w.heap.size, 2, none⟩ = some (.string SM) from
    ⟨(hb11.cell (p := ⟨w.heap.size, 0, none⟩) L10.out).trans K10.out.1, (hb11.cell (p := ⟨w.heap.size, 1, none⟩) L10.out).trans K10.out.2.1, (hb11.cell (p := ⟨w.heap.size, 2, none⟩) L10.out).trans K10.out.2.2⟩)
  have L11 := Lib.hid (Nat.lt_of_lt_of_le L10.out hb11.size)
  clear hb11 CR K10 L10 B10
  go_upto_region 10 with (fail)
  clear hand2
  have U63 := Lib.hid (fun w' => run_upto_at w' (some ⟨bb, bo, none⟩) (p + s) L c ((p : Int) + (s : Int)) (by omega) (by omega) hc)
  have F69 := Lib.hid (fun w' => run_from_at w' bb bo (p + s) L c ((p : Int) + (s : Int)) (by omega) (by omega) hc)
  rw [hLm] at F69
  refine region_anyM mixedOrders ?_
  refine anyM_take (i := 0) (oi := ⟨some 59, _, _, _, _, _⟩) (v := .slice (some ⟨bb, bo, none⟩) L c) rfl (by kernel_rfl) (by kernel_rfl) (by kernel_rfl) (fun _ _ _ h => h) (.inl ⟨by rfl, fun w2 hw2 => ?_⟩) ?_
  · clear hw2
    go_simp
  simp only [Act.put, List.setIfInBounds_toArray, List.set_cons_succ, List.set_cons_zero]
  refine anyM_take (i := 1) (oi := ⟨some 60, _, _, _, _, _⟩) (v := .int .i64 (p : Int)) rfl (by kernel_rfl) (by kernel_rfl) (by kernel_rfl) (fun _ _ _ h => h) (.inl ⟨by rfl, fun w2 hw2 => ?_⟩) ?_
  · clear hw2
    go_simp
  simp only [Act.put, List.setIfInBounds_toArray, List.set_cons_succ, List.set_cons_zero]
  refine anyM_take (i := 2) (oi := ⟨some 61, _, _, _, _, _⟩) (v := .int .i64 (s : Int)) rfl (by kernel_rfl) (by kernel_rfl) (by kernel_rfl) (fun _ _ _ h => h) (.inl ⟨by rfl, fun w2 hw2 => ?_⟩) ?_
  · clear hw2
    go_simp
  simp only [Act.put, List.setIfInBounds_toArray, List.set_cons_succ, List.set_cons_zero]
  refine anyM_take (i := 3) (oi := ⟨some 62, _, _, _, _, _⟩) (v := .int .i64 ((p : Int) + (s : Int))) rfl (by kernel_rfl) (by kernel_rfl) (by kernel_rfl) (fun _ _ _ h => h) (.inl ⟨by rfl, fun w2 hw2 => ?_⟩) ?_
  · clear hw2
    go_simp
  simp only [Act.put, List.setIfInBounds_toArray, List.set_cons_succ, List.set_cons_zero]
  refine anyM_take (i := 4) (oi := ⟨some 63, _, _, _, _, _⟩) (v := .slice (some ⟨bb, bo, none⟩) (p + s) c) rfl (by kernel_rfl) (by kernel_rfl) (by kernel_rfl) (fun _ _ _ h => h) (.inl ⟨by rfl, fun w2 hw2 => ?_⟩) ?_
  · have hf := U63.out
    clear hw2
    go_simp
  simp only [Act.put, List.setIfInBounds_toArray, List.set_cons_succ, List.set_cons_zero]
  refine anyM_take (i := 6) (oi := ⟨some 65, _, _, _, _, _⟩) (v := .slice (some ⟨bb, bo, none⟩) L c) rfl (by kernel_rfl) (by kernel_rfl) (by kernel_rfl) (fun _ _ _ h => h) (.inl ⟨by rfl, fun w2 hw2 => ?_⟩) ?_
  · clear hw2
    go_simp
  simp only [Act.put, List.setIfInBounds_toArray, List.set_cons_succ, List.set_cons_zero]
  refine anyM_take (i := 7) (oi := ⟨some 66, _, _, _, _, _⟩) (v := .int .i64 (p : Int)) rfl (by kernel_rfl) (by kernel_rfl) (by kernel_rfl) (fun _ _ _ h => h) (.inl ⟨by rfl, fun w2 hw2 => ?_⟩) ?_
  · clear hw2
    go_simp
  simp only [Act.put, List.setIfInBounds_toArray, List.set_cons_succ, List.set_cons_zero]
  refine anyM_take (i := 8) (oi := ⟨some 67, _, _, _, _, _⟩) (v := .int .i64 (s : Int)) rfl (by kernel_rfl) (by kernel_rfl) (by kernel_rfl) (fun _ _ _ h => h) (.inl ⟨by rfl, fun w2 hw2 => ?_⟩) ?_
  · clear hw2
    go_simp
  simp only [Act.put, List.setIfInBounds_toArray, List.set_cons_succ, List.set_cons_zero]
  refine anyM_take (i := 9) (oi := ⟨some 68, _, _, _, _, _⟩) (v := .int .i64 ((p : Int) + (s : Int))) rfl (by kernel_rfl) (by kernel_rfl) (by kernel_rfl) (fun _ _ _ h => h) (.inl ⟨by rfl, fun w2 hw2 => ?_⟩) ?_
  · clear hw2
    go_simp
  simp only [Act.put, List.setIfInBounds_toArray, List.set_cons_succ, List.set_cons_zero]
  refine anyM_take (i := 10) (oi := ⟨some 69, _, _, _, _, _⟩) (v := .slice (some ⟨bb, bo + (p + s), none⟩) (m + 16) (c - (p + s))) rfl (by kernel_rfl) (by kernel_rfl) (by kernel_rfl) (fun _ _ _ h => h) (.inl ⟨by rfl, fun w2 hw2 => ?_⟩) ?_
  · have hf := F69.out
    clear hw2
    go_simp
  simp only [Act.put, List.setIfInBounds_toArray, List.set_cons_succ, List.set_cons_zero]
  refine anyM_call (i := 5) (o := ⟨some 64, _, _, _, _, _⟩) 37 #[.slice (some ⟨bb, bo, none⟩) (p + s) c] (by kernel_rfl) rfl (by rfl) (fun w2 => by go_simp) (fun w12 hw12 => ?_)
  have b12 := Lib.hid (show Below w11.drew.heap.size w11.drew w12 from hw12)
  have B12 := Lib.hid (ext_below hw12 B11.out.drew B11.out.drew.size)
  refine (clone_any bb bo (p + s) c f w12 ⟨by unfold maxLen; omega, .inr ⟨bb, bo, rfl, Nat.lt_of_lt_of_le HBB.out B12.out.size, fun i hi => (B12.out.cell (p := ⟨bb, bo + i, none⟩) HBB.out).trans (HC.out i (by omega))⟩⟩ (by omega)).mono ?_
  rintro e w13 ⟨v13, rfl, o13, hb13⟩
  refine ⟨_, rfl, hb13, ?_⟩
  obtain ⟨g, cg, rfl, hg13, hcg, hcgm, ra13⟩ := o13.rowAt (by omega)
  have RA13 := Lib.hid ra13
  have B13 := Lib.hid (B12.out.trans (hb13.mono B12.out.size))
  have b13 := Lib.hid (b12.out.trans (hb13.mono b12.out.size))
  have hrg : r < g := Nat.lt_of_lt_of_le (Nat.lt_of_lt_of_le C11.out.2 b12.out.size) hg13
  have hwg : w.heap.size < g := Nat.lt_of_lt_of_le L11.out (Nat.le_trans b12.out.size hg13)
  clear hw12 b12 B12 o13 ra13 hb13 U63 F69 B11
  simp only [Act.put, List.setIfInBounds_toArray, List.set_cons_succ, List.set_cons_zero]
  refine anyM_take (i := 11) (oi := ⟨some 16, _, _, _, _, _⟩) (v := .slice (some ⟨g, 0, none⟩) (p + s) cg) rfl (by kernel_rfl) (by kernel_rfl) (by kernel_rfl) (fun _ _ _ h => h) (.inl ⟨by rfl, fun w2 hw2 => ?_⟩) ?_
  · clear hw2
    go_simp
  simp only [Act.put, List.setIfInBounds_toArray, List.set_cons_succ, List.set_cons_zero]
  refine anyM_take (i := 12) (oi := ⟨some 17, _, _, _, _, _⟩) (v := .slice (some ⟨bb, bo + (p + s), none⟩) (m + 16) (c - (p + s))) rfl (by kernel_rfl) (by kernel_rfl) (by kernel_rfl) (fun _ _ _ h => h) (.inl ⟨by rfl, fun w2 hw2 => ?_⟩) ?_
  · clear hw2
    go_simp
  simp only [Act.put, List.setIfInBounds_toArray, List.set_cons_succ, List.set_cons_zero]
  refine anyM_done (by kernel_rfl) (fun w14 hw14 => ?_)
  have h14 : Below w13.heap.size w13 w14 := hw14
  have b14 := Lib.hid (b13.out.trans (h14.mono b13.out.size))
  have B14 := Lib.hid (B13.out.trans (h14.mono B13.out.size))
  have RA14 := Lib.hid (RA13.out.later h14)
  have C14 := Lib.hid (show (∀ i, i < 16 → w14.cell? ⟨r, i, none⟩ = some (.int .u8 (n8 (M i)))) ∧ r < w14.heap.size from ⟨fun i hi => (b14.out.cell (p := ⟨r, i, none⟩) C11.out.2).trans (C11.out.1 i hi), Nat.lt_of_lt_of_le C11.out.2 b14.out.size⟩)
  have K14 := Lib.hid (show w14.cell? ⟨w.heap.size, 0, none⟩ = some (.string SK) ∧ w14.cell? ⟨w.heap.size, 1, none⟩ = some (.string SI) ∧ w14.cell? ⟨w.heap.size, 2, none⟩ = some (.string SM) from
    ⟨(b14.out.cell (p := ⟨w.heap.size, 0, none⟩) L11.out).trans K11.out.1, (b14.out.cell (p := ⟨w.heap.size, 1, none⟩) L11.out).trans K11.out.2.1, (b14.out.cell (p := ⟨w.heap.size, 2, none⟩) L11.out).trans K11.out.2.2⟩)
  clear hw14 h14 b14 b13 B13 RA13 C11 K11 L11
  have cz := RA14.out.at 0 (by omega)
  have fz := RA14.out.free 0 (by omega)
  rw [Nat.add_zero] at cz fz
  have hpsI : (0 : Int) < (p : Int) + (s : Int) := by omega
  go_upto_region 12 with (fail)
  have RD := RA14.out.set 0 VV
  rw [Nat.add_zero] at RD
  have hne : r ≠ g := by omega
  have hh : (w14.setCell ⟨g, 0, none⟩ (.int .u8 (n8 VV))).heap[r]? = w14.heap[r]? := heap_setCell_other _ _ _ _ hne
  have hk : (w14.setCell ⟨g, 0, none⟩ (.int .u8 (n8 VV))).heap[w.heap.size]? = w14.heap[w.heap.size]? := heap_setCell_other _ _ _ _ (show w.heap.size ≠ g by omega)
  have CRD := Lib.hid (show (∀ i, i < 16 → (w14.setCell ⟨g, 0, none⟩ (.int .u8 (n8 VV))).cell? ⟨r, i, none⟩ = some (.int .u8 (n8 (M i)))) ∧ r < (w14.setCell ⟨g, 0, none⟩ (.int .u8 (n8 VV))).heap.size from
    ⟨fun i hi => by
      have h2 := C14.out.1 i hi
      unfold World.cell? at h2 ⊢
      simp only [hh]
      exact h2, by
      have h3 := C14.out.2
      simpa using h3⟩)
  have KRD := Lib.hid (show (w14.setCell ⟨g, 0, none⟩ (.int .u8 (n8 VV))).cell? ⟨w.heap.size, 0, none⟩ = some (.string SK) ∧ (w14.setCell ⟨g, 0, none⟩ (.int .u8 (n8 VV))).cell? ⟨w.heap.size, 1, none⟩ = some (.string SI) ∧ (w14.setCell ⟨g, 0, none⟩ (.int .u8 (n8 VV))).cell? ⟨w.heap.size, 2, none⟩ = some (.string SM) by
    have h2 := K14.out
    unfold World.cell? at h2 ⊢
    simp only [hk]
    exact h2)
  have BD := Lib.hid (B14.out.setCell (Nat.le_of_lt hwg) (p := ⟨g, 0, none⟩) (.int .u8 (n8 VV)))
  have RDD := Lib.hid RD
  clear RD RA14 C14 K14 B14 hh hk cz fz
  generalize w14.setCell _ _ = wd at *
  have F75 := Lib.hid (fun w' => run_from_at w' g 0 p (p + s) cg (p : Int) rfl (by omega) hcg)
  rw [Nat.zero_add, show p + s - p = s by omega] at F75
  have F77 := Lib.hid (fun w' => run_from_at w' r 0 1 16 16 1 rfl (by omega) (by omega))
  rw [Nat.zero_add] at F77
  refine region_class1 5 (fun w' => Below wd.heap.size wd w') mixedOrders (by kernel_rfl) (Below.refl _ _).drew rfl ?_
  refine wpQuiet_take (by rfl) (fun K hK => ⟨.slice (some ⟨g, 0, none⟩) (p + s) cg, fun w2' hw2 => ?_, hK _ ?_⟩)
  · clear hw2; go_simp
  clear hK K
  simp only [Act.put, List.setIfInBounds_toArray, List.set_cons_succ, List.set_cons_zero]
  refine wpQuiet_take (by rfl) (fun K hK => ⟨.int .i64 (p : Int), fun w2' hw2 => ?_, hK _ ?_⟩)
  · clear hw2; go_simp
  clear hK K
  simp only [Act.put, List.setIfInBounds_toArray, List.set_cons_succ, List.set_cons_zero]
  refine wpQuiet_take (by rfl) (fun K hK => ⟨.slice (some ⟨g, p, none⟩) s (cg - p), fun w2' hw2 => ?_, hK _ ?_⟩)
  · have hc := F75.out
    clear hw2
    go_simp
  clear hK K
  simp only [Act.put, List.setIfInBounds_toArray, List.set_cons_succ, List.set_cons_zero]
  refine wpQuiet_take (by rfl) (fun K hK => ⟨.slice (some ⟨r, 0, none⟩) 16 16, fun w2' hw2 => ?_, hK _ ?_⟩)
  · clear hw2; go_simp
  clear hK K
  simp only [Act.put, List.setIfInBounds_toArray, List.set_cons_succ, List.set_cons_zero]
  refine wpQuiet_take (by rfl) (fun K hK => ⟨.slice (some ⟨r, 1, none⟩) 15 15, fun w2' hw2 => ?_, hK _ ?_⟩)
  · have hc := F77.out
    clear hw2
    go_simp
  clear hK K
  simp only [Act.put, List.setIfInBounds_toArray, List.set_cons_succ, List.set_cons_zero]
  refine wpQuiet_take0 ?_
  intro w15 hb15
  have tg := gtogetherAt g 0 p s (cg - p) (p + s) (updb f 0 VV) (some ⟨r, 1, none⟩) 15 15 (fun i => M (1 + i)) w15 (RDD.out.later hb15) (by omega)
    ⟨by unfold maxLen; omega, .inr ⟨r, 1, rfl, Nat.lt_of_lt_of_le CRD.out.2 hb15.size, fun i hi => (hb15.cell (p := ⟨r, 1 + i, none⟩) CRD.out.2).trans (CRD.out.1 (1 + i) (by omega))⟩⟩ (by omega) (fun x hx => by injection hx with hx; subst hx; exact hne)
  rw [Nat.zero_add, ← HH.out] at tg
  have TG := Lib.hid tg
  have B15 := Lib.hid (BD.out.trans (hb15.mono BD.out.size))
  have LD := Lib.hid (show w.heap.size < wd.heap.size from Nat.lt_of_lt_of_le hwg (Nat.le_of_lt RDD.out.lt))
  have K15 := Lib.hid (show w15.cell? ⟨w.heap.size, 0, none⟩ = some (.string SK) ∧ w15.cell? ⟨w.heap.size, 1, none⟩ = some (.string SI) ∧ w15.cell? ⟨w.heap.size, 2, none⟩ = some (.string SM) from
    ⟨(hb15.cell (p := ⟨w.heap.size, 0, none⟩) LD.out).trans KRD.out.1, (hb15.cell (p := ⟨w.heap.size, 1, none⟩) LD.out).trans KRD.out.2.1, (hb15.cell (p := ⟨w.heap.size, 2, none⟩) LD.out).trans KRD.out.2.2⟩)
  clear hb15 RDD CRD KRD BD F75 F77 tg LD
  go_upto_region 13 with (go_at_call 32; refine TG.out.mono ?_; rintro e w16 ⟨rfl, ra16, hb16, ho16⟩; have R16 := Lib.hid ra16; have B16 := Lib.hid (B15.out.trans (hb16 w.heap.size (Nat.le_of_lt hwg))); have O16 := Lib.hid (ho16 w.heap.size (by omega)); clear ra16 hb16 ho16)
  clear TG B15
  have K16 := Lib.hid (show w16.cell? ⟨w.heap.size, 0, none⟩ = some (.string SK) ∧ w16.cell? ⟨w.heap.size, 1, none⟩ = some (.string SI) ∧ w16.cell? ⟨w.heap.size, 2, none⟩ = some (.string SM) by
    have h2 := K15.out
    unfold World.cell? at h2 ⊢
    simp only [O16.out]
    exact h2)
  clear K15 O16
  have f82 := fun w' => run_from_at w' g 0 p (p + s) cg (p : Int) rfl (by omega) hcg
  rw [Nat.zero_add, show p + s - p = s by omega] at f82
  have V16 := Lib.hid (VO.out (some ⟨g, p, none⟩) (cg - p) w16 ⟨by unfold maxLen; omega, .inr ⟨g, p, rfl, R16.out.lt, fun i hi => by have := R16.out.at (p + i) (by omega); rwa [Nat.zero_add] at this⟩⟩)
  have W16 := Lib.hid (WL.out w16)
  have hb6 := R16.out.bytesIn (by unfold maxLen; omega)
  have B6 := Lib.hid hb6
  have X16 := Lib.hid (show BytesIn w16 (some ⟨bb, bo + (p + s), none⟩) (m + 16) (fun i => f (p + s + i)) from ⟨by unfold maxLen; omega, .inr ⟨bb, bo + (p + s), rfl, Nat.lt_of_lt_of_le HBB.out B16.out.size, fun i hi => by rw [B16.out.cell (p := ⟨bb, bo + (p + s) + i, none⟩) HBB.out, Nat.add_assoc bo]; exact HC.out (p + s + i) (by omega)⟩⟩)
  have OP16 := Lib.hid (OP.out (some ⟨g, 0, none⟩) (some ⟨bb, bo + (p + s), none⟩) cg (c - (p + s)) hcg hcgm (by omega) (by omega) w16 B6.out X16.out)
  clear hb6 VO WL OP X16
  go_upto_region 16 with (first
    | (go_at_call 39; refine V16.out.mono ?_; rintro e w17 ⟨rfl, rfl⟩)
    | (go_at_call 38; refine W16.out.mono ?_; rintro e w17 ⟨rfl, rfl⟩))
  clear f82 V16 W16
  obtain ⟨k0, k1, k2⟩ := K16.out
  go_wp2_with fail
  refine OP16.out.mono ?_
  rintro e w18 ⟨hb18, ⟨hE, r2, rfl, hr2, hin⟩ | ⟨hE, rfl⟩⟩
  · have B18 := Lib.hid (B16.out.trans (hb18.mono B16.out.size))
    have HE := Lib.hid hE
    have HI := Lib.hid hin
    have BH := Lib.hid (bytesIn_later B6.out hb18)
    clear hE hin hb18 k0 k1 k2
    go_wp2_with fail
    try simp only [Exit.inBlock, Exit.then]
    refine bodyPost_ret (results_tmp4 rfl _ _ _) rfl ?_
    exact ⟨B18.out, .inl ⟨HE.out, g, cg, r2, rfl, hcg, hcgm, BH.out, HI.out⟩⟩
  · have B18 := Lib.hid (B16.out.trans (hb18.mono B16.out.size))
    have HE := Lib.hid hE
    clear hE hb18 k0 k1 k2
    go_wp2_with fail
    try simp only [Exit.inBlock, Exit.then]
    refine bodyPost_ret (results_tmp4 rfl _ _ _) rfl ?_
    exact ⟨B18.out, .inr ⟨HE.out, rfl⟩⟩
end Go.Proofs.YtjbpjoondmcnlabDoor
namespace Go.Proofs.YtjbpjoondmcnlabDoor
open Go Go.RowKit Go.BigFrame
set_option linter.unusedSimpArgs false
set_option linter.unusedVariables false
set_option maxRecDepth 100000
def docO (ok : Bool) (H : ByteArray) (N : Int) (C : ByteArray) : Value := if ok then .tuple #[.string H, .int .i64 N, .string C, .int .i64 0] else .tuple #[.string ⟨#[]⟩, .int .i64 0, .string ⟨#[]⟩, .int .i64 4]
theorem low_step (x : Nat) (b : BitVec 8) (hx : x < 16777216) : wrap64 ((x : Int) * 256 + wrap64 (n8 b)) = ((x * 256 + b.toNat : Nat) : Int) := by
  have hb := b.isLt
  rw [n8_nat]
  unfold wrap64
  omega
set_option maxHeartbeats 16000000 in
theorem docOpen_any (k iv mk f : Nat → BitVec 8) (E : Int) (h0 : 0 ≤ E) (h1 : E ≤ 4611686018427387903) (p L s : Nat) (hp : 1 ≤ p) (hL : p + 20 ≤ L) (hL2 : L ≤ 4000) (hs : opnS mk f p = s) (w : World) :
    Calls Tryd.prog 13 #[.agg (kysC (strOf k 16) (strOf iv 12) (strOf mk 16)), .string (strOf f L), .int .i64 (p : Int), .int .i64 E] w
      fun e w' => e = .returned (docO (opnOk k iv mk f E p L s) (strOf (hidP mk f p s) (p + s)) (opnN mk f p s E) (strOf (opnC k iv mk f E p s) (L - (p + s) - 16))) ∧ Below w.heap.size w w' := by
  have R0 : (w.alloc (.cells (kysC (strOf k 16) (strOf iv 12) (strOf mk 16)) 23)).heap[w.heap.size]? = some (.cells (kysC (strOf k 16) (strOf iv 12) (strOf mk 16)) 23 (0, 0)) := heap_alloc_last _ _
  have hb1 : Below w.heap.size w (w.alloc (.cells (kysC (strOf k 16) (strOf iv 12) (strOf mk 16)) 23)) := (Below.refl w.heap.size w).alloc (Nat.le_refl _) _
  have HB := Lib.hid hb1
  have HL := Lib.hid (show w.heap.size < (w.alloc (.cells (kysC (strOf k 16) (strOf iv 12) (strOf mk 16)) 23)).heap.size by simp)
  have CC := Lib.hid (kys_cells R0)
  have WH2 := Lib.hid (by have := right_any (strOf k 16) (strOf iv 12) (strOf mk 16) 16 12 16 (strOf_size _ _) (strOf_size _ _) (strOf_size _ _) (w.alloc (.cells (kysC (strOf k 16) (strOf iv 12) (strOf mk 16)) 23)); rw [decide_eq_true (show 16 = 16 ∧ 12 = 12 ∧ 16 = 16 from ⟨rfl, rfl, rfl⟩)] at this; exact this)
  have hsr : 1 ≤ s ∧ s ≤ 4 := by unfold opnS at hs; omega
  obtain ⟨hs1, hs4⟩ := hsr
  obtain ⟨m, hm⟩ : ∃ m, L - (p + s) - 16 = m := ⟨_, rfl⟩
  have hLm : L - (p + s) = m + 16 := by omega
  have hnn := wholeF_in s hs1 hs4 ((numG (fun i => hidP mk f p s (p + i)) s : Nat) : Int) E (by omega) (numG_ltI _ s) h0 h1
  have WL := Lib.hid (fun w' => rwhole_any s hs1 hs4 ((numG (fun i => hidP mk f p s (p + i)) s : Nat) : Int) E (by omega) (numG_ltI _ s) h0 h1 w')
  have NO := Lib.hid (fun w' => rnonce_any iv (opnN mk f p s E) hnn.1 hnn.2 w')
  have MK0 := Lib.hid (fun w' => masked_any mk f (strOf k 16) (strOf iv 12) L p 0 (by omega) hp hL (by omega) w')
  have MKs := Lib.hid (fun w' => masked_any mk f (strOf k 16) (strOf iv 12) L p s hs4 hp hL (by omega) w')
  have i0 := fun w' => run_at_str (hidP mk f p 0) L 0 (by omega) w'
  have hv0 : hidP mk f p 0 0 = veilF (f 0) (mskF mk (fun i => f (p + i)) 0) := by
    unfold hidP togF
    rw [if_neg (by omega)]
    unfold updb
    simp
  rw [hv0] at i0
  have hq5 : (wrap64 (n8 (veilF (f 0) (mskF mk (fun i => f (p + i)) 0)))).tmod 4 = (s : Int) - 1 := by
    unfold opnS at hs
    have h8 := (veilF (f 0) (mskF mk (fun i => f (p + i)) 0)).isLt
    rw [show wrap64 (n8 (veilF (f 0) (mskF mk (fun i => f (p + i)) 0))) = n8 (veilF (f 0) (mskF mk (fun i => f (p + i)) 0)) by rw [n8_nat]; unfold wrap64; omega, Int.tmod_eq_emod_of_nonneg (by rw [n8_nat]; omega), n8_nat]
    omega
  have IX := Lib.hid (fun (j : Nat) (hj : p + j < L) (w' : World) => (by have h := run_at_str (hidP mk f p s) L (p + j) hj w'; rw [Int.natCast_add] at h; exact h : (Instr.index 9 (.string (strOf (hidP mk f p s) L)) (.int .i64 ((p : Int) + (j : Int)))).run Tryd.prog w' = .ok (.int .u8 (n8 (hidP mk f p s (p + j)))) w'))
  have U85 := fun w' => run_str_upto (hidP mk f p s) L (p + s) ((p : Int) + (s : Int)) (by omega) (by omega) w'
  have F98 := Lib.hid (fun w' => run_str_from (hidP mk f p s) L (p + s) ((p : Int) + (s : Int)) (by omega) (by omega) w')
  rw [hLm] at F98
  have eb : strOf (fun i => hidP mk f p s (p + s + i)) (m + 16) = strOf (fun i => f (p + s + i)) (m + 16) := (strOf_eq _ _ _).2 (fun i hi => by
    unfold hidP togF
    rw [if_neg (by omega)]
    unfold updb
    rw [if_neg (by omega)])
  rw [eb] at F98
  have OD := openD_ok k (nonTo iv (opnN mk f p s E) 8) (hidP mk f p s) (fun i => f (p + s + i)) (p + s) m
  have DOk : opnOk k iv mk f E p L s = openE (sched k) (hOf (sched k)) (nonTo iv (opnN mk f p s E) 8) (hidP mk f p s) (p + s) (fun i => f (p + s + i)) m := by unfold opnOk; rw [hm]
  have DC : opnC k iv mk f E p s = hid (sched k) (nonTo iv (opnN mk f p s E) 8) (fun i => f (p + s + i)) := rfl
  have DN : wholeF (256 ^ s) ((numG (fun i => hidP mk f p s (p + i)) s : Nat) : Int) E = opnN mk f p s E := rfl
  have OD2 := Lib.hid (show ∃ ok, ok = opnOk k iv mk f E p L s ∧ ∀ w', Calls Tryd.prog 34 #[.string (strOf k 16), .string (strOf (nonTo iv (opnN mk f p s E) 8) 12), .string (strOf (hidP mk f p s) (p + s)), .string (strOf (fun i => f (p + s + i)) (m + 16))] w' fun e w2 => e = .returned (if ok then .tuple #[.string (strOf (opnC k iv mk f E p s) m), .int .i64 0] else .tuple #[.string ⟨#[]⟩, .int .i64 4]) ∧ Below w'.heap.size w' w2 by
    refine ⟨_, rfl, fun w' => (OD w' (by omega) (by omega)).mono ?_⟩
    rintro e w2 ⟨hb, ⟨hE, rfl⟩ | ⟨hE, rfl⟩⟩
    · rw [DOk, hE, DC]; exact ⟨rfl, hb⟩
    · rw [DOk, hE]; exact ⟨rfl, hb⟩)
  rw [DN] at WL
  rw [hm]
  obtain ⟨ok, hok, hod⟩ := OD2.out
  rw [← hok]
  have OO := Lib.hid hod
  have HP4 := Lib.hid (fun j (hj : j ≤ 3) => numG_lt (fun i => hidP mk f p s (p + i)) j)
  have szC := strOf_size (opnC k iv mk f E p s) m
  have szB := strOf_size f L
  clear DOk DC DN hnn OD hv0 eb hok hod OD2 hm hs
  generalize opnN mk f p s E = NN at *
  obtain ⟨LG, hLG⟩ : ∃ LG : Nat → Nat, ∀ j, numG (fun i => hidP mk f p s (p + i)) j = LG j := ⟨_, fun _ => rfl⟩
  have LG0 : LG 0 = 0 := by rw [← hLG]; rfl
  have LGS := Lib.hid (fun j => show LG (j + 1) = LG j * 256 + (hidP mk f p s (p + j)).toNat by rw [← hLG, ← hLG]; rfl)
  simp only [hLG] at WL HP4
  clear hLG
  generalize veilF (f 0) (mskF mk (fun i => f (p + i)) 0) = VV at *
  generalize strOf (opnC k iv mk f E p s) m = SCC at *
  generalize strOf (fun i => f (p + s + i)) (m + 16) = SBD at *
  generalize strOf (hidP mk f p s) (p + s) = SHD at *
  generalize strOf (hidP mk f p s) L = SBR at *
  generalize strOf (hidP mk f p 0) L = SB0 at *
  generalize hidP mk f p s = HP at *
  generalize strOf (nonTo iv NN 8) 12 = SN at *
  generalize strOf f L = SB at *
  have hpL : ¬ (L : Int) - (p : Int) < 20 := by omega
  have hpL2 : ¬ (p : Int) > (L : Int) := by omega
  have hPn : ¬ (p : Int) < 1 := by omega
  have hE1 : ¬ E < 0 := by omega
  have hE2 : ¬ E > 4611686018427387903 := by omega
  have hwr : IntKind.wrap .i64 ((L : Int) - (p : Int)) = (L : Int) - (p : Int) := by simp only [IntKind.wrap, IntKind.bits, IntKind.signed]; simp; omega
  have hwps : IntKind.wrap .i64 ((p : Int) + (s : Int)) = (p : Int) + (s : Int) := by simp only [IntKind.wrap, IntKind.bits, IntKind.signed]; simp; omega
  simp only [Int.ofNat_zero, Int.natCast_zero] at i0
  obtain ⟨c0, c1, c2⟩ := CC.out
  clear hb1 R0
  unfold kysC at *
  generalize strOf k 16 = SK at *
  generalize strOf iv 12 = SI at *
  generalize strOf mk 16 = SM at *
  go_enter Tryd.func13, Tryd.ntmps13
  go_upto_region 5 with (go_at_call 21; refine WH2.out.mono ?_; rintro e w1 ⟨rfl, hb⟩; have B1 := Lib.hid (HB.out.trans (hb.mono HB.out.size)); have L1 := Lib.hid (Nat.lt_of_lt_of_le HL.out hb.size); have c1' := Lib.hid (fun (i : Nat) => hb.cell (p := ⟨w.heap.size, i, none⟩) HL.out); clear hb)
  have K1 := Lib.hid (fun (w' : World) (h : Below w1.heap.size w1 w') => show w'.cell? ⟨w.heap.size, 0, none⟩ = some (.string SK) ∧ w'.cell? ⟨w.heap.size, 1, none⟩ = some (.string SI) ∧ w'.cell? ⟨w.heap.size, 2, none⟩ = some (.string SM) from
    ⟨(h.cell (p := ⟨w.heap.size, 0, none⟩) L1.out).trans ((c1'.out 0).trans CC.out.1), (h.cell (p := ⟨w.heap.size, 1, none⟩) L1.out).trans ((c1'.out 1).trans CC.out.2.1), (h.cell (p := ⟨w.heap.size, 2, none⟩) L1.out).trans ((c1'.out 2).trans CC.out.2.2)⟩)
  clear c1' CC c0 c1 c2 HL WH2 hpL hpL2 hPn hE1 hE2 hwr
  obtain ⟨c0, c1, c2⟩ := K1.out w1 (Below.refl _ _)
  go_upto_region 6 with (go_at_call 24; refine (MK0.out _).mono ?_; rintro e w2 ⟨rfl, hb⟩; have b2 := Lib.hid hb; clear hb)
  clear c0 c1 c2 i0 hq5 MK0
  obtain ⟨c0, c1, c2⟩ := K1.out w2 b2.out
  go_upto_region 7 with (go_at_call 24; refine (MKs.out _).mono ?_; rintro e w3 ⟨rfl, hb⟩; have b3 := Lib.hid (b2.out.trans (hb.mono b2.out.size)); clear hb)
  clear c0 c1 c2 MKs b2
  go_upto_region 9 with (fail)
  go_loopw [14, 15] (fun s14 s15 wr => ∃ j : Nat, j ≤ s ∧ w3 = wr ∧ s15 = .int .i64 (j : Int) ∧ s14 = .int .i64 ((LG j : Nat) : Int)) (fun _ s15 _ => ((s : Int) - intOf s15).toNat)
  case atStart => exact ⟨0, by omega, rfl, rfl, by rw [LG0]; rfl⟩
  case round =>
    obtain ⟨j, hj, hw, h15, h14⟩ := hrel
    have HW := Lib.hid hw
    clear hw
    by_cases hlt : j < s
    · subst h15 h14
      have hx := IX.out j (by omega) wr
      have hji : (j : Int) < (s : Int) := by omega
      have hj4 : LG j < 16777216 := Nat.lt_of_lt_of_le (HP4.out j (by omega)) (Nat.le_trans (Nat.pow_le_pow_right (by decide) (show j ≤ 3 by omega)) (by decide))
      go_wp2_with fail
      have hb := (HP (p + j)).isLt
      exact ⟨⟨j + 1, by omega, HW.out, by congr 1, by rw [low_step _ _ hj4, LGS.out j]⟩, by simp [intOf]; omega⟩
    · have hjs : s = j := Nat.le_antisymm (Nat.le_of_not_lt hlt) hj
      clear hj hlt
      subst hjs
      subst h15 h14
      have hN : ¬ ((s : Int) < (s : Int)) := Int.lt_irrefl _
      have hw := HW.out
      subst hw
      go_upto_region 14 with (go_at_call 33; refine (WL.out _).mono ?_; rintro e w4 ⟨rfl, rfl⟩)
      cases ok
      · have OB := Lib.hid (show ∀ w', Calls Tryd.prog 34 #[.string SK, .string SN, .string SHD, .string SBD] w' fun e w2 => e = .returned (.tuple #[.string ⟨#[]⟩, .int .i64 4]) ∧ Below w'.heap.size w' w2 from OO.out)
        clear OO
        refine region_class1 17 (fun w' => Below w3.heap.size w3 w') mixedOrders (by kernel_rfl) (Below.refl _ _).drew rfl ?_
        refine wpQuiet_take (by rfl) (fun K hK => ⟨.pointer (some ⟨w.heap.size, 0, none⟩), fun w2' hw2 => ?_, hK _ ?_⟩)
        · clear hw2; go_simp
        clear hK K
        simp only [Act.put, List.setIfInBounds_toArray, List.set_cons_succ, List.set_cons_zero]
        refine wpQuiet_take (by rfl) (fun K hK => ⟨.string SK, fun w2' hw2 => ?_, hK _ ?_⟩)
        · have hc := (K1.out w2' (b3.out.trans (hw2.mono b3.out.size))).1
          clear hw2
          go_simp
        clear hK K
        simp only [Act.put, List.setIfInBounds_toArray, List.set_cons_succ, List.set_cons_zero]
        refine wpQuiet_take (by rfl) (fun K hK => ⟨.pointer (some ⟨w.heap.size, 1, none⟩), fun w2' hw2 => ?_, hK _ ?_⟩)
        · clear hw2; go_simp
        clear hK K
        simp only [Act.put, List.setIfInBounds_toArray, List.set_cons_succ, List.set_cons_zero]
        refine wpQuiet_take (by rfl) (fun K hK => ⟨.string SI, fun w2' hw2 => ?_, hK _ ?_⟩)
        · have hc := (K1.out w2' (b3.out.trans (hw2.mono b3.out.size))).2.1
          clear hw2
          go_simp
        clear hK K
        simp only [Act.put, List.setIfInBounds_toArray, List.set_cons_succ, List.set_cons_zero]
        refine wpQuiet_take (by rfl) (fun K hK => ⟨.int .i64 NN, fun w2' hw2 => ?_, hK _ ?_⟩)
        · clear hw2; go_simp
        clear hK K
        simp only [Act.put, List.setIfInBounds_toArray, List.set_cons_succ, List.set_cons_zero]
        refine wpQuiet_take (by rfl) (fun K hK => ⟨.string SN, fun w2' hw2 => ?_, hK _ ?_⟩)
        · go_simp
          go_at_call 23
          refine (NO.out w2').mono ?_
          rintro e w5 ⟨rfl, hb5⟩
          exact ⟨rfl, hw2.trans (hb5.mono hw2.size)⟩
        clear hK K
        simp only [Act.put, List.setIfInBounds_toArray, List.set_cons_succ, List.set_cons_zero]
        refine wpQuiet_take (by rfl) (fun K hK => ⟨.string SHD, fun w2' hw2 => ?_, hK _ ?_⟩)
        · clear hw2; go_simp
        clear hK K
        simp only [Act.put, List.setIfInBounds_toArray, List.set_cons_succ, List.set_cons_zero]
        refine wpQuiet_take (by rfl) (fun K hK => ⟨.string SBR, fun w2' hw2 => ?_, hK _ ?_⟩)
        · clear hw2; go_simp
        clear hK K
        simp only [Act.put, List.setIfInBounds_toArray, List.set_cons_succ, List.set_cons_zero]
        refine wpQuiet_take (by rfl) (fun K hK => ⟨.int .i64 (p : Int), fun w2' hw2 => ?_, hK _ ?_⟩)
        · clear hw2; go_simp
        clear hK K
        simp only [Act.put, List.setIfInBounds_toArray, List.set_cons_succ, List.set_cons_zero]
        refine wpQuiet_take (by rfl) (fun K hK => ⟨.int .i64 (s : Int), fun w2' hw2 => ?_, hK _ ?_⟩)
        · clear hw2; go_simp
        clear hK K
        simp only [Act.put, List.setIfInBounds_toArray, List.set_cons_succ, List.set_cons_zero]
        refine wpQuiet_take (by rfl) (fun K hK => ⟨.int .i64 ((p : Int) + (s : Int)), fun w2' hw2 => ?_, hK _ ?_⟩)
        · clear hw2; go_simp
        clear hK K
        simp only [Act.put, List.setIfInBounds_toArray, List.set_cons_succ, List.set_cons_zero]
        refine wpQuiet_take (by rfl) (fun K hK => ⟨.string SBD, fun w2' hw2 => ?_, hK _ ?_⟩)
        · have hc := F98.out
          clear hw2
          go_simp
        clear hK K
        simp only [Act.put, List.setIfInBounds_toArray, List.set_cons_succ, List.set_cons_zero]
        refine wpQuiet_take (by rfl) (fun K hK => ⟨.tuple #[.string ⟨#[]⟩, .int .i64 4], fun w2' hw2 => ?_, hK _ ?_⟩)
        · go_simp
          go_at_call 34
          refine (OB.out w2').mono ?_
          rintro e w5 ⟨rfl, hb5⟩
          exact ⟨rfl, hw2.trans (hb5.mono hw2.size)⟩
        clear hK K
        simp only [Act.put, List.setIfInBounds_toArray, List.set_cons_succ, List.set_cons_zero]
        refine wpQuiet_take (by rfl) (fun K hK => ⟨.tuple #[.string ⟨#[]⟩, .int .i64 4], fun w2' hw2 => ?_, hK _ ?_⟩)
        · clear hw2; go_simp
        clear hK K
        simp only [Act.put, List.setIfInBounds_toArray, List.set_cons_succ, List.set_cons_zero]
        refine wpQuiet_take (by rfl) (fun K hK => ⟨.string ⟨#[]⟩, fun w2' hw2 => ?_, hK _ ?_⟩)
        · clear hw2; go_simp
        clear hK K
        simp only [Act.put, List.setIfInBounds_toArray, List.set_cons_succ, List.set_cons_zero]
        refine wpQuiet_take (by rfl) (fun K hK => ⟨.int .i64 4, fun w2' hw2 => ?_, hK _ ?_⟩)
        · clear hw2; go_simp
        clear hK K
        simp only [Act.put, List.setIfInBounds_toArray, List.set_cons_succ, List.set_cons_zero]
        refine wpQuiet_take (by rfl) (fun K hK => ⟨.string ⟨#[]⟩, fun w2' hw2 => ?_, hK _ ?_⟩)
        · clear hw2; go_simp
        clear hK K
        simp only [Act.put, List.setIfInBounds_toArray, List.set_cons_succ, List.set_cons_zero]
        refine wpQuiet_take0 ?_
        intro w6 hb6
        have B6 := Lib.hid (B1.out.trans ((b3.out.trans (hb6.mono b3.out.size)).mono B1.out.size))
        clear hb6
        go_wp2_with fail
        try simp only [Exit.inBlock, Exit.then]
        refine bodyPost_ret (results_tmp4 rfl _ _ _) rfl ?_
        exact ⟨rfl, B6.out⟩
      · have OB := Lib.hid (show ∀ w', Calls Tryd.prog 34 #[.string SK, .string SN, .string SHD, .string SBD] w' fun e w2 => e = .returned (.tuple #[.string SCC, .int .i64 0]) ∧ Below w'.heap.size w' w2 from OO.out)
        clear OO
        refine region_class1 17 (fun w' => Below w3.heap.size w3 w') mixedOrders (by kernel_rfl) (Below.refl _ _).drew rfl ?_
        refine wpQuiet_take (by rfl) (fun K hK => ⟨.pointer (some ⟨w.heap.size, 0, none⟩), fun w2' hw2 => ?_, hK _ ?_⟩)
        · clear hw2; go_simp
        clear hK K
        simp only [Act.put, List.setIfInBounds_toArray, List.set_cons_succ, List.set_cons_zero]
        refine wpQuiet_take (by rfl) (fun K hK => ⟨.string SK, fun w2' hw2 => ?_, hK _ ?_⟩)
        · have hc := (K1.out w2' (b3.out.trans (hw2.mono b3.out.size))).1
          clear hw2
          go_simp
        clear hK K
        simp only [Act.put, List.setIfInBounds_toArray, List.set_cons_succ, List.set_cons_zero]
        refine wpQuiet_take (by rfl) (fun K hK => ⟨.pointer (some ⟨w.heap.size, 1, none⟩), fun w2' hw2 => ?_, hK _ ?_⟩)
        · clear hw2; go_simp
        clear hK K
        simp only [Act.put, List.setIfInBounds_toArray, List.set_cons_succ, List.set_cons_zero]
        refine wpQuiet_take (by rfl) (fun K hK => ⟨.string SI, fun w2' hw2 => ?_, hK _ ?_⟩)
        · have hc := (K1.out w2' (b3.out.trans (hw2.mono b3.out.size))).2.1
          clear hw2
          go_simp
        clear hK K
        simp only [Act.put, List.setIfInBounds_toArray, List.set_cons_succ, List.set_cons_zero]
        refine wpQuiet_take (by rfl) (fun K hK => ⟨.int .i64 NN, fun w2' hw2 => ?_, hK _ ?_⟩)
        · clear hw2; go_simp
        clear hK K
        simp only [Act.put, List.setIfInBounds_toArray, List.set_cons_succ, List.set_cons_zero]
        refine wpQuiet_take (by rfl) (fun K hK => ⟨.string SN, fun w2' hw2 => ?_, hK _ ?_⟩)
        · go_simp
          go_at_call 23
          refine (NO.out w2').mono ?_
          rintro e w5 ⟨rfl, hb5⟩
          exact ⟨rfl, hw2.trans (hb5.mono hw2.size)⟩
        clear hK K
        simp only [Act.put, List.setIfInBounds_toArray, List.set_cons_succ, List.set_cons_zero]
        refine wpQuiet_take (by rfl) (fun K hK => ⟨.string SHD, fun w2' hw2 => ?_, hK _ ?_⟩)
        · clear hw2; go_simp
        clear hK K
        simp only [Act.put, List.setIfInBounds_toArray, List.set_cons_succ, List.set_cons_zero]
        refine wpQuiet_take (by rfl) (fun K hK => ⟨.string SBR, fun w2' hw2 => ?_, hK _ ?_⟩)
        · clear hw2; go_simp
        clear hK K
        simp only [Act.put, List.setIfInBounds_toArray, List.set_cons_succ, List.set_cons_zero]
        refine wpQuiet_take (by rfl) (fun K hK => ⟨.int .i64 (p : Int), fun w2' hw2 => ?_, hK _ ?_⟩)
        · clear hw2; go_simp
        clear hK K
        simp only [Act.put, List.setIfInBounds_toArray, List.set_cons_succ, List.set_cons_zero]
        refine wpQuiet_take (by rfl) (fun K hK => ⟨.int .i64 (s : Int), fun w2' hw2 => ?_, hK _ ?_⟩)
        · clear hw2; go_simp
        clear hK K
        simp only [Act.put, List.setIfInBounds_toArray, List.set_cons_succ, List.set_cons_zero]
        refine wpQuiet_take (by rfl) (fun K hK => ⟨.int .i64 ((p : Int) + (s : Int)), fun w2' hw2 => ?_, hK _ ?_⟩)
        · clear hw2; go_simp
        clear hK K
        simp only [Act.put, List.setIfInBounds_toArray, List.set_cons_succ, List.set_cons_zero]
        refine wpQuiet_take (by rfl) (fun K hK => ⟨.string SBD, fun w2' hw2 => ?_, hK _ ?_⟩)
        · have hc := F98.out
          clear hw2
          go_simp
        clear hK K
        simp only [Act.put, List.setIfInBounds_toArray, List.set_cons_succ, List.set_cons_zero]
        refine wpQuiet_take (by rfl) (fun K hK => ⟨.tuple #[.string SCC, .int .i64 0], fun w2' hw2 => ?_, hK _ ?_⟩)
        · go_simp
          go_at_call 34
          refine (OB.out w2').mono ?_
          rintro e w5 ⟨rfl, hb5⟩
          exact ⟨rfl, hw2.trans (hb5.mono hw2.size)⟩
        clear hK K
        simp only [Act.put, List.setIfInBounds_toArray, List.set_cons_succ, List.set_cons_zero]
        refine wpQuiet_take (by rfl) (fun K hK => ⟨.tuple #[.string SCC, .int .i64 0], fun w2' hw2 => ?_, hK _ ?_⟩)
        · clear hw2; go_simp
        clear hK K
        simp only [Act.put, List.setIfInBounds_toArray, List.set_cons_succ, List.set_cons_zero]
        refine wpQuiet_take (by rfl) (fun K hK => ⟨.string SCC, fun w2' hw2 => ?_, hK _ ?_⟩)
        · clear hw2; go_simp
        clear hK K
        simp only [Act.put, List.setIfInBounds_toArray, List.set_cons_succ, List.set_cons_zero]
        refine wpQuiet_take (by rfl) (fun K hK => ⟨.int .i64 0, fun w2' hw2 => ?_, hK _ ?_⟩)
        · clear hw2; go_simp
        clear hK K
        simp only [Act.put, List.setIfInBounds_toArray, List.set_cons_succ, List.set_cons_zero]
        refine wpQuiet_take (by rfl) (fun K hK => ⟨.string SCC, fun w2' hw2 => ?_, hK _ ?_⟩)
        · clear hw2; go_simp
        clear hK K
        simp only [Act.put, List.setIfInBounds_toArray, List.set_cons_succ, List.set_cons_zero]
        refine wpQuiet_take0 ?_
        intro w6 hb6
        have B6 := Lib.hid (B1.out.trans ((b3.out.trans (hb6.mono b3.out.size)).mono B1.out.size))
        clear hb6
        go_wp2_with fail
        try simp only [Exit.inBlock, Exit.then]
        refine bodyPost_ret (results_tmp4 rfl _ _ _) rfl ?_
        exact ⟨rfl, B6.out⟩
end Go.Proofs.YtjbpjoondmcnlabDoor
namespace Go.Proofs.YtjbpjoondmcnlabDoor
open Go Go.RowKit Go.BigFrame Go.ChangeShapes Go.WideShapes
set_option linter.unusedSimpArgs false
set_option linter.unusedVariables false
set_option maxRecDepth 100000
def OpensTo (K I M : ByteArray) (f : Nat → BitVec 8) (L : Nat) (P E : Int) (T1 : ByteArray) (N : Int) (T2 : ByteArray) (r : Int) : Prop :=
  ∀ (w' : World) (a : Option Addr) (c : Nat), L ≤ c → c ≤ maxLen → BytesIn w' a L f →
    Calls Tryd.prog 14 #[.agg (kysC K I M), .slice a L c, .int .i64 P, .int .i64 E] w' fun e w2 => ∃ g1 m1 c1 h1 g2 m2 c2 h2, e = .returned (.tuple #[.slice g1 m1 c1, .int .i64 N, .slice g2 m2 c2, .int .i64 r]) ∧ BytesIn w2 g1 m1 h1 ∧ T1 = strOf h1 m1 ∧ BytesIn w2 g2 m2 h2 ∧ T2 = strOf h2 m2 ∧ Below w'.heap.size w' w2
theorem in_noneG (w : World) (h : Nat → BitVec 8) : BytesIn w none 0 h := ⟨by unfold maxLen; omega, .inl rfl⟩
theorem opensTo_bad (K I M : ByteArray) (f : Nat → BitVec 8) (L : Nat) (P E r : Int)
    (OB : ∀ (w' : World) (a : Option Addr) (c : Nat), Calls Tryd.prog 14 #[.agg (kysC K I M), .slice a L c, .int .i64 P, .int .i64 E] w' fun e w2 => e = .returned (.tuple #[.slice none 0 0, .int .i64 0, .slice none 0 0, .int .i64 r]) ∧ Below w'.heap.size w' w2) :
    OpensTo K I M f L P E ⟨#[]⟩ 0 ⟨#[]⟩ r := by
  intro w' a c _ _ _
  refine (OB w' a c).mono ?_
  rintro e w2 ⟨rfl, hb⟩
  exact ⟨none, 0, 0, fun _ => 0#8, none, 0, 0, fun _ => 0#8, rfl, in_noneG _ _, rfl, in_noneG _ _, rfl, hb⟩
theorem opens_both (K I M : ByteArray) (f : Nat → BitVec 8) (L : Nat) (hL : L ≤ 4000) (P E : Int) (hP : P ≤ 9223372036854775807) (w : World) :
    Calls Tryd.prog 13 #[.agg (kysC K I M), .string (strOf f L), .int .i64 P, .int .i64 E] w fun e w1 => ∃ (T1 : ByteArray) (N : Int) (T2 : ByteArray) (r : Int), e = .returned (.tuple #[.string T1, .int .i64 N, .string T2, .int .i64 r]) ∧ Below w.heap.size w w1 ∧ OpensTo K I M f L P E T1 N T2 r := by
  by_cases hbad : badOpen K.size I.size M.size P E
  · refine (docOpen_arg K I M _ _ _ rfl rfl rfl P E (strOf f L) w hbad).mono ?_
    rintro e w1 ⟨rfl, hb⟩
    exact ⟨_, _, _, _, rfl, hb, opensTo_bad K I M f L P E 1 (fun w' a c => gopen_arg K I M _ _ _ rfl rfl rfl P E a L c w' hbad)⟩
  · unfold badOpen at hbad
    have h0 : 0 ≤ E ∧ E ≤ 4611686018427387903 := Decidable.byContradiction fun h => hbad (.inr (.inl h))
    have hk : K.size = 16 ∧ I.size = 12 ∧ M.size = 16 := Decidable.byContradiction fun h => hbad (.inr (.inr h))
    have hP1 : 1 ≤ P := by omega
    by_cases ht : (L : Int) - P < 20
    · refine (docOpen_tail K I M hk.1 hk.2.1 hk.2.2 P E h0.1 h0.2 hP1 hP (strOf f L) L (strOf_size _ _) hL ht w).mono ?_
      rintro e w1 ⟨rfl, hb⟩
      exact ⟨_, _, _, _, rfl, hb, opensTo_bad K I M f L P E 3 (fun w' a c => gopen_tail K I M hk.1 hk.2.1 hk.2.2 P E h0.1 h0.2 hP1 hP a L c hL ht w')⟩
    · obtain ⟨p, rfl⟩ : ∃ p : Nat, P = (p : Int) := ⟨P.toNat, by omega⟩
      obtain ⟨k, rfl⟩ := str_of K 16 hk.1
      obtain ⟨iv, rfl⟩ := str_of I 12 hk.2.1
      obtain ⟨mk, rfl⟩ := str_of M 16 hk.2.2
      obtain ⟨s, hs⟩ : ∃ s, opnS mk f p = s := ⟨_, rfl⟩
      have hp : 1 ≤ p := by omega
      have hpL : p + 20 ≤ L := by omega
      refine (docOpen_any k iv mk f E h0.1 h0.2 p L s hp hpL hL hs w).mono ?_
      rintro e w1 ⟨rfl, hb⟩
      cases hO : opnOk k iv mk f E p L s with
      | true =>
        refine ⟨_, _, _, _, rfl, hb, ?_⟩
        intro w' a c hc hcm hf
        obtain ⟨_, h | ⟨b, o, rfl, _, _⟩⟩ := id hf
        · omega
        refine (gopen_any k iv mk f E h0.1 h0.2 p L s hp hpL hL hs b o c hc hcm w' hf).mono ?_
        rintro e w2 ⟨hb2, ⟨_, g, ch, r, rfl, _, _, i1, i2⟩ | ⟨hx, _⟩⟩
        · exact ⟨_, _, _, _, _, _, _, _, rfl, i1, rfl, i2, rfl, hb2⟩
        · rw [hO] at hx; cases hx
      | false =>
        refine ⟨_, _, _, _, rfl, hb, ?_⟩
        intro w' a c hc hcm hf
        obtain ⟨_, h | ⟨b, o, rfl, _, _⟩⟩ := id hf
        · omega
        refine (gopen_any k iv mk f E h0.1 h0.2 p L s hp hpL hL hs b o c hc hcm w' hf).mono ?_
        rintro e w2 ⟨hb2, ⟨hx, _⟩ | ⟨_, rfl⟩⟩
        · rw [hO] at hx; cases hx
        · exact ⟨none, 0, 0, fun _ => 0#8, none, 0, 0, fun _ => 0#8, rfl, in_noneG _ _, rfl, in_noneG _ _, rfl, hb2⟩
def slC (K I M : ByteArray) (a : Option Addr) (n c : Nat) (P E : Int) : Array Value := #[.string K, .string I, .string M, .slice a n c, .int .i64 P, .int .i64 E]
theorem sl_cells {w : World} {b : Nat} {T : TypeId} {K I M : ByteArray} {a : Option Addr} {n c : Nat} {P E : Int} (h : w.heap[b]? = some (.cells (slC K I M a n c P E) T (0, 0))) :
    w.cell? ⟨b, 0, none⟩ = some (.string K) ∧ w.cell? ⟨b, 1, none⟩ = some (.string I) ∧ w.cell? ⟨b, 2, none⟩ = some (.string M) ∧ w.cell? ⟨b, 3, none⟩ = some (.slice a n c) ∧ w.cell? ⟨b, 4, none⟩ = some (.int .i64 P) ∧ w.cell? ⟨b, 5, none⟩ = some (.int .i64 E) := by
  refine ⟨?_, ?_, ?_, ?_, ?_, ?_⟩ <;> rw [cell_of_row _ _ _ _ _ _ h] <;> rfl
theorem open_sealed {H : Type} {enc : TypeId × Value → H} {w : World} {base : Nat} {v : Value} {d : DataW H} {p : List MemPlace} (hk : Value.okWide Tryd.prog w .any base 38 v)
    (h : DataW.Trod enc Tryd.prog w 0 (fun _ => true) true 38 v d p) :
    ∃ K I M a n c f P E, v = .agg (slC K I M a n c P E) ∧ BytesIn w a n f ∧ n ≤ c ∧ c ≤ maxLen ∧ P ≤ 9223372036854775807 := by
  obtain ⟨cs, rfl, hs⟩ := okWide_agg (by kernel_rfl) hk
  have hs9 : cs.size = 6 := hs.trans (by kernel_rfl)
  obtain ⟨fuel, hf⟩ := h
  obtain ⟨xs, n, _, hd, _, hl, hx⟩ := DataW.trod_struct Tryd.underlying38 hf
  match xs, hl with
  | [y0, y1, y2, y3], _ =>
    match cs, hs9 with
    | ⟨[v0, v1, v2, v3, v4, v5]⟩, _ =>
      have g0 : DataW.trod enc Tryd.prog w 0 (fun _ => true) true n 23 [v0, v1, v2] = some y0 := hx 0 _ rfl
      have g1 : DataW.trod enc Tryd.prog w 0 (fun _ => true) true n 31 [v3] = some y1 := hx 1 _ rfl
      have g2 : DataW.trod enc Tryd.prog w 0 (fun _ => true) true n 3 [v4] = some y2 := hx 2 _ rfl
      have g3 : DataW.trod enc Tryd.prog w 0 (fun _ => true) true n 3 [v5] = some y3 := hx 3 _ rfl
      obtain ⟨xs2, n2, _, hd2, _, hl2, hx2⟩ := DataW.trod_struct Tryd.underlying23 g0
      match xs2, hl2 with
      | [z0, z1, z2], _ =>
        have k0 : DataW.trod enc Tryd.prog w 0 (fun _ => true) true n2 9 [v0] = some z0 := hx2 0 _ rfl
        have k1 : DataW.trod enc Tryd.prog w 0 (fun _ => true) true n2 9 [v1] = some z1 := hx2 1 _ rfl
        have k2 : DataW.trod enc Tryd.prog w 0 (fun _ => true) true n2 9 [v2] = some z2 := hx2 2 _ rfl
        have ui : Tryd.prog.underlying 3 = some (.int .i64) := by kernel_rfl
        have us : Tryd.prog.underlying 9 = some .string := by kernel_rfl
        obtain ⟨K, e0, _, _⟩ := DataW.trod_string us k0
        obtain ⟨I, e1, _, _⟩ := DataW.trod_string us k1
        obtain ⟨M, e2, _, _⟩ := DataW.trod_string us k2
        obtain ⟨a, len, cap, f, e3, hb, hlc, hcm, _⟩ := open_bytes_at g1
        obtain ⟨P, e4, q1, q2⟩ := DataW.trod_int ui g2
        obtain ⟨E, e5, _, _⟩ := DataW.trod_int ui g3
        simp only [List.cons.injEq, and_true] at e0 e1 e2 e4 e5
        subst e0 e1 e2 e3 e4 e5
        have hb2 : -9223372036854775808 ≤ P ∧ P ≤ 9223372036854775807 := by simpa [Lit.wf, IntKind.min, IntKind.max, IntKind.signed, IntKind.bits] using q2
        exact ⟨K, I, M, a, len, cap, f, P, E, rfl, hb, hlc, hcm, hb2.2⟩
end Go.Proofs.YtjbpjoondmcnlabDoor
namespace Go.Proofs.YtjbpjoondmcnlabDoor
open Go Go.RowKit
set_option linter.unusedSimpArgs false
set_option linter.unusedVariables false
theorem xor_keep (x m c d : BitVec 8) (h : c &&& d = 0#8) : (x ^^^ (m &&& c)) &&& d = x &&& d := by
  ext i hi
  have h2 : (c &&& d)[i] = false := by rw [h]; simp
  simp only [BitVec.getElem_and, BitVec.getElem_xor] at h2 ⊢
  revert h2
  cases x[i] <;> cases m[i] <;> cases c[i] <;> cases d[i] <;> decide
theorem veil_veil (x m : BitVec 8) : veilF (veilF x m) m = x := by
  unfold veilF
  by_cases h : x &&& 128#8 = 0#8
  · rw [if_pos h, if_pos (by rw [xor_keep _ _ _ _ (by decide)]; exact h), BitVec.xor_assoc, BitVec.xor_self, BitVec.xor_zero]
  · rw [if_neg h, if_neg (by rw [xor_keep _ _ _ _ (by decide)]; exact h), BitVec.xor_assoc, BitVec.xor_self, BitVec.xor_zero]
theorem of_congr16 (f g : Nat → BitVec 8) (h : ∀ i, i < 16 → f i = g i) : W4.of f = W4.of g := by
  unfold W4.of
  simp only [h 0 (by omega), h 1 (by omega), h 2 (by omega), h 3 (by omega), h 4 (by omega), h 5 (by omega), h 6 (by omega), h 7 (by omega), h 8 (by omega), h 9 (by omega), h 10 (by omega), h 11 (by omega), h 12 (by omega), h 13 (by omega), h 14 (by omega), h 15 (by omega)]
theorem msk_congr (mk f g : Nat → BitVec 8) (h : ∀ i, i < 16 → f (4 + i) = g (4 + i)) : mskF mk f = mskF mk g := by
  unfold mskF
  rw [of_congr16 (fun i => f (4 + i)) (fun i => g (4 + i)) h]
theorem hidP_at (mk b : Nat → BitVec 8) (p s i : Nat) (hp : 1 ≤ p) : hidP mk b p s i = if i = 0 then veilF (b 0) (mskF mk (fun j => b (p + j)) 0) else if p ≤ i ∧ i < p + s then b i ^^^ mskF mk (fun j => b (p + j)) (1 + (i - p)) else b i := by
  unfold hidP togF updb
  by_cases h0 : i = 0
  · subst h0
    rw [if_neg (by omega), if_pos rfl, if_pos rfl]
  · by_cases h1 : p ≤ i ∧ i < p + s
    · simp only [if_neg h0, if_pos h1]
    · simp only [if_neg h0, if_neg h1]
theorem openE_congr (ks : Nat → BitVec 32) (h : W2) (f g g' : Nat → BitVec 8) (n : Nat) (xs ys : Nat → BitVec 8) (m : Nat) (hg : ∀ i, i < n → g i = g' i) (hx : ∀ i, i < m + 16 → xs i = ys i) : openE ks h f g n xs m = openE ks h f g' n ys m := by
  rw [Bool.eq_iff_iff, openE_iff, openE_iff]
  have e : tagW ks h f g n xs m = tagW ks h f g' n ys m := by
    rw [tagW_congr ks h f g n xs ys m (fun i hi => hx i (by omega))]
    unfold tagW
    rw [sumGB_congr h _ g g' n hg]
  rw [e]
  constructor
  · intro H i hi; rw [← hx (m + i) (by omega)]; exact H i hi
  · intro H i hi; rw [hx (m + i) (by omega)]; exact H i hi
theorem numG_congr (f g : Nat → BitVec 8) : ∀ s, (∀ i, i < s → f i = g i) → numG f s = numG g s
  | 0, _ => rfl
  | s + 1, h => by
    unfold numG
    rw [numG_congr f g s (fun i hi => h i (by omega)), h s (by omega)]
/-- The expected number is near: so is the whole one. -/
theorem whole_near (s : Nat) (hs1 : 1 ≤ s) (hs4 : s ≤ 4) (N E : Int) (h0 : 0 ≤ N) (h1 : N ≤ 4611686018427387903) (e0 : 0 ≤ E) (e1 : E ≤ 4611686018427387903) (hn : N - E < 2 ^ (8 * s - 1)) (hn2 : E - N ≤ 2 ^ (8 * s - 1) / 2) : wholeF (256 ^ s) (N % 2 ^ (8 * s)) E = N := by
  obtain rfl | rfl | rfl | rfl : s = 1 ∨ s = 2 ∨ s = 3 ∨ s = 4 := by omega
  all_goals
    simp only [Nat.reduceMul, Nat.reduceSub, Int.reducePow] at hn hn2 ⊢
    unfold wholeF
    split
    · omega
    · split <;> omega
section
variable (k iv mk f xs : Nat → BitVec 8) (N : Int) (m s n : Nat)
/-- A packet's bytes read as Open reads them: F agrees with them up to the sample's end. -/
theorem back_front (hs1 : 1 ≤ s) (hs4 : s ≤ 4) (hsm : s + 1 ≤ m) (hn4 : 4 ≤ n + s) (hform : formOk f m s N) (F : Nat → BitVec 8) (hF : ∀ i, i < m - s + 20 → F i = packF k iv mk f xs N m s n i) :
    opnS mk F (m - s) = s ∧ (∀ i, i < m → hidP mk F (m - s) s i = f i) ∧ ∀ i, m ≤ i → hidP mk F (m - s) s i = F i := by
  have hp : 1 ≤ m - s := by omega
  obtain ⟨J, hJ⟩ : ∃ J, joinb f m (sealF (sched k) (hOf (sched k)) (nonTo iv N 8) f m xs n) = J := ⟨_, rfl⟩
  have hP : packF k iv mk f xs N m s n = hidP mk J (m - s) s := by unfold packF; rw [hJ]
  have hf : ∀ i, i < m → J i = f i := fun i hi => by rw [← hJ]; unfold joinb; rw [if_pos hi]
  rw [hP] at hF
  have hm : mskF mk (fun j => F (m - s + j)) = mskF mk (fun j => J (m - s + j)) := msk_congr mk _ _ (fun i hi => by
    show F (m - s + (4 + i)) = J (m - s + (4 + i))
    rw [hF _ (by omega), hidP_at mk J (m - s) s _ hp, if_neg (by omega), if_neg (by omega)])
  have h0 : F 0 = veilF (J 0) (mskF mk (fun j => J (m - s + j)) 0) := by rw [hF 0 (by omega), hidP_at mk J (m - s) s 0 hp, if_pos rfl]
  have hv : veilF (F 0) (mskF mk (fun j => F (m - s + j)) 0) = f 0 := by rw [hm, h0, veil_veil, hf 0 (by omega)]
  refine ⟨?_, fun i hi => ?_, fun i hi => ?_⟩
  · unfold opnS
    rw [hv]
    exact hform.1
  · rw [hidP_at mk F (m - s) s i hp]
    by_cases hi0 : i = 0
    · subst hi0
      rw [if_pos rfl, hv]
    · rw [if_neg hi0]
      by_cases h1 : m - s ≤ i ∧ i < m - s + s
      · rw [if_pos h1, hm, hF i (by omega), hidP_at mk J (m - s) s i hp, if_neg hi0, if_pos h1, BitVec.xor_assoc, BitVec.xor_self, BitVec.xor_zero, hf i hi]
      · rw [if_neg h1, hF i (by omega), hidP_at mk J (m - s) s i hp, if_neg hi0, if_neg h1, hf i hi]
  · rw [hidP_at mk F (m - s) s i hp, if_neg (by omega), if_neg (by omega)]
theorem back_number (hs1 : 1 ≤ s) (hs4 : s ≤ 4) (hsm : s + 1 ≤ m) (hn4 : 4 ≤ n + s) (hform : formOk f m s N) (F : Nat → BitVec 8) (hF : ∀ i, i < m - s + 20 → F i = packF k iv mk f xs N m s n i) (E : Int) (h0 : 0 ≤ N) (h1 : N ≤ 4611686018427387903) (e0 : 0 ≤ E) (e1 : E ≤ 4611686018427387903) (hn : N - E < 2 ^ (8 * s - 1)) (hn2 : E - N ≤ 2 ^ (8 * s - 1) / 2) :
    opnN mk F (m - s) s E = N := by
  obtain ⟨_, hh, _⟩ := back_front k iv mk f xs N m s n hs1 hs4 hsm hn4 hform F hF
  unfold opnN
  rw [numG_congr (fun i => hidP mk F (m - s) s (m - s + i)) (fun i => f (m - s + i)) s (fun i hi => hh _ (by omega)), hform.2]
  exact whole_near s hs1 hs4 N E h0 h1 e0 e1 hn hn2
theorem back_open (hs1 : 1 ≤ s) (hs4 : s ≤ 4) (hsm : s + 1 ≤ m) (hn4 : 4 ≤ n + s) (hform : formOk f m s N) (E : Int) (h0 : 0 ≤ N) (h1 : N ≤ 4611686018427387903) (e0 : 0 ≤ E) (e1 : E ≤ 4611686018427387903) (hn : N - E < 2 ^ (8 * s - 1)) (hn2 : E - N ≤ 2 ^ (8 * s - 1) / 2) :
    opnOk k iv mk (packF k iv mk f xs N m s n) E (m - s) (m + (n + 16)) s = true ∧ ∀ i, i < n → opnC k iv mk (packF k iv mk f xs N m s n) E (m - s) s i = xs i := by
  have hN := back_number k iv mk f xs N m s n hs1 hs4 hsm hn4 hform _ (fun i _ => rfl) E h0 h1 e0 e1 hn hn2
  obtain ⟨_, hh, _⟩ := back_front k iv mk f xs N m s n hs1 hs4 hsm hn4 hform _ (fun i _ => rfl)
  have hp : 1 ≤ m - s := by omega
  have hb : ∀ i, packF k iv mk f xs N m s n (m + i) = sealF (sched k) (hOf (sched k)) (nonTo iv N 8) f m xs n i := fun i => by
    unfold packF
    rw [hidP_at _ _ _ _ _ hp, if_neg (by omega), if_neg (by omega)]
    unfold joinb
    rw [if_neg (by omega), show m + i - m = i by omega]
  refine ⟨?_, fun i hi => ?_⟩
  · unfold opnOk
    rw [hN, show m - s + s = m by omega, show m + (n + 16) - m - 16 = n by omega, openE_congr _ _ _ _ f m _ (sealF (sched k) (hOf (sched k)) (nonTo iv N 8) f m xs n) n (fun i hi => hh i hi) (fun i hi => hb i)]
    exact openE_sealed _ _ _ _ _ _ _
  · unfold opnC
    rw [hN]
    have e := hid_hid (sched k) (hOf (sched k)) (nonTo iv N 8) f m xs n i hi
    unfold hid at e ⊢
    show packF k iv mk f xs N m s n (m - s + s + i) ^^^ _ = _
    rw [show m - s + s + i = m + i by omega, hb i]
    exact e
/-- With a byte of the body changed nothing is opened, unless H is nought. -/
theorem back_spoilt (hs1 : 1 ≤ s) (hs4 : s ≤ 4) (hsm : s + 1 ≤ m) (hn4 : 4 ≤ n + s) (hform : formOk f m s N) (E : Int) (h0 : 0 ≤ N) (h1 : N ≤ 4611686018427387903) (e0 : 0 ≤ E) (e1 : E ≤ 4611686018427387903) (hn : N - E < 2 ^ (8 * s - 1)) (hn2 : E - N ≤ 2 ^ (8 * s - 1) / 2)
    (hH : hOf (sched k) ≠ ⟨0#64, 0#64⟩) (j : Nat) (hj : m - s + 20 ≤ j) (hj2 : j < m + (n + 16)) (x : BitVec 8) (hx : x ≠ packF k iv mk f xs N m s n j) :
    opnS mk (updb (packF k iv mk f xs N m s n) j x) (m - s) = s ∧ opnOk k iv mk (updb (packF k iv mk f xs N m s n) j x) E (m - s) (m + (n + 16)) s = false := by
  have hF : ∀ i, i < m - s + 20 → updb (packF k iv mk f xs N m s n) j x i = packF k iv mk f xs N m s n i := fun i hi => by unfold updb; rw [if_neg (by omega)]
  have hN := back_number k iv mk f xs N m s n hs1 hs4 hsm hn4 hform _ hF E h0 h1 e0 e1 hn hn2
  obtain ⟨hS, hh, _⟩ := back_front k iv mk f xs N m s n hs1 hs4 hsm hn4 hform _ hF
  have hp : 1 ≤ m - s := by omega
  have hb : ∀ i, packF k iv mk f xs N m s n (m + i) = sealF (sched k) (hOf (sched k)) (nonTo iv N 8) f m xs n i := fun i => by
    unfold packF
    rw [hidP_at _ _ _ _ _ hp, if_neg (by omega), if_neg (by omega)]
    unfold joinb
    rw [if_neg (by omega), show m + i - m = i by omega]
  refine ⟨hS, ?_⟩
  unfold opnOk
  rw [hN, show m - s + s = m by omega, show m + (n + 16) - m - 16 = n by omega, openE_congr _ _ _ _ f m _ (updb (sealF (sched k) (hOf (sched k)) (nonTo iv N 8) f m xs n) (j - m) x) n (fun i hi => hh i hi) (fun i hi => by
    show updb (packF k iv mk f xs N m s n) j x (m + i) = _
    unfold updb
    by_cases e : m + i = j
    · rw [if_pos e, if_pos (by omega)]
    · rw [if_neg e, if_neg (by omega), hb i])]
  exact spoilt_seal _ _ _ _ _ _ _ _ hH (by omega) x (by rw [← hb (j - m), show m + (j - m) = j by omega]; exact hx)
end
end Go.Proofs.YtjbpjoondmcnlabDoor
namespace Go.Proofs.YtjbpjoondmcnlabDoor
open Go Go.RowKit Go.BigFrame
set_option linter.unusedSimpArgs false
set_option linter.unusedVariables false
set_option maxRecDepth 100000
def nhA : Nat → BitVec 8 := fun i => if i = 0 then 64#8 else 0#8
def nhB : Nat → BitVec 8 := fun i => if i = 0 then 68#8 else 0#8
def ntx (l : List (BitVec 8)) : Nat → BitVec 8 := fun i => l.getD i 0#8
def nIv : Nat → BitVec 8 := ntx [49#8, 50#8, 51#8, 52#8, 53#8, 54#8, 55#8, 56#8, 57#8, 48#8, 49#8, 50#8]
def nMk : Nat → BitVec 8 := ntx [49#8, 50#8, 51#8, 52#8, 53#8, 54#8, 55#8, 56#8, 57#8, 48#8, 49#8, 50#8, 51#8, 52#8, 53#8, 54#8]
def nAbc : Nat → BitVec 8 := ntx [97#8, 98#8, 99#8]
theorem tag_zero (ks : Nat → BitVec 32) (f g g' : Nat → BitVec 8) (n : Nat) (u : Nat → BitVec 8) (m : Nat) : tagW ks ⟨0#64, 0#64⟩ f g n u m = tagW ks ⟨0#64, 0#64⟩ f g' n u m := by
  have hz : ∀ a b : W2, W2.mul a ⟨0#64, 0#64⟩ = W2.mul b ⟨0#64, 0#64⟩ := fun a b => poly_inj _ _ (by rw [mul_poly, mul_poly, poly_zero, GF.mul_zero, GF.mul_zero])
  unfold tagW
  rw [hz _ (W2.xor (sumGB ⟨0#64, 0#64⟩ (sumGB ⟨0#64, 0#64⟩ ⟨0#64, 0#64⟩ g' n) u m) (cnt2 n m))]
theorem pack_zero (k iv mk f f' xs : Nat → BitVec 8) (N : Int) (hH : hOf (sched k) = ⟨0#64, 0#64⟩) (i : Nat) (hi : 5 ≤ i) : packF k iv mk f xs N 2 1 3 i = packF k iv mk f' xs N 2 1 3 i := by
  unfold packF
  rw [hidP_at _ _ _ _ _ (by omega), hidP_at _ _ _ _ _ (by omega), if_neg (by omega), if_neg (by omega), if_neg (by omega), if_neg (by omega)]
  unfold joinb
  rw [if_neg (by omega), if_neg (by omega)]
  unfold sealF joinb
  rw [if_neg (by omega), if_neg (by omega), hH, tag_zero _ _ f f']
set_option maxHeartbeats 16000000 in
theorem nought_any (k : Nat → BitVec 8) (hH : hOf (sched k) = ⟨0#64, 0#64⟩) (w : World) :
    Calls Tryd.prog 15 #[.string (strOf k 16)] w fun e w' => e = .returned (.bool true) ∧ Below w.heap.size w w' := by
  have tA : strOf nhA 2 = ⟨#[64, 0]⟩ := by rfl
  have tB : strOf nhB 2 = ⟨#[68, 0]⟩ := by rfl
  have tI : strOf nIv 12 = ⟨#[49, 50, 51, 52, 53, 54, 55, 56, 57, 48, 49, 50]⟩ := by rfl
  have tM : strOf nMk 16 = ⟨#[49, 50, 51, 52, 53, 54, 55, 56, 57, 48, 49, 50, 51, 52, 53, 54]⟩ := by rfl
  have tC : strOf nAbc 3 = ⟨#[97, 98, 99]⟩ := by rfl
  have fA : formOk nhA 2 1 0 := ⟨by decide, by decide⟩
  have fB : formOk nhB 2 1 0 := ⟨by decide, by decide⟩
  have hs : strOf (fun i => packF k nIv nMk nhA nAbc 0 2 1 3 (13 + i)) 8 = strOf (fun i => packF k nIv nMk nhB nAbc 0 2 1 3 (13 + i)) 8 := (strOf_eq _ _ _).2 (fun i hi => pack_zero k nIv nMk nhA nhB nAbc 0 hH (13 + i) (by omega))
  have DA := Lib.hid (fun w' => docSeal_ok k nIv nMk nhA nAbc 0 (by omega) (by omega) 1 2 3 (by omega) (by omega) (by omega) (by omega) (by omega) w' _ 0 (.inr (.inr (.inr ⟨fA, by omega, by omega, rfl, rfl⟩))))
  have DB := Lib.hid (fun w' => docSeal_ok k nIv nMk nhB nAbc 0 (by omega) (by omega) 1 2 3 (by omega) (by omega) (by omega) (by omega) (by omega) w' _ 0 (.inr (.inr (.inr ⟨fB, by omega, by omega, rfl, rfl⟩))))
  have sA := fun w' => run_str_from (packF k nIv nMk nhA nAbc 0 2 1 3) 21 13 13 rfl (by omega) w'
  have sB := fun w' => run_str_from (packF k nIv nMk nhB nAbc 0 2 1 3) 21 13 13 rfl (by omega) w'
  have zA := strOf_size (packF k nIv nMk nhA nAbc 0 2 1 3) 21
  have zB := strOf_size (packF k nIv nMk nhB nAbc 0 2 1 3) 21
  simp only [Nat.reduceSub] at sA sB
  rw [← hs] at sB
  simp only [Nat.reduceAdd, Int.natCast_one] at DA DB
  unfold kysC at DA DB
  rw [tA, tI, tM, tC] at DA
  rw [tB, tI, tM, tC] at DB
  clear tA tB tI tM tC fA fB hs
  generalize strOf (packF k nIv nMk nhA nAbc 0 2 1 3) 21 = TA at *
  generalize strOf (packF k nIv nMk nhB nAbc 0 2 1 3) 21 = TB at *
  generalize strOf (fun i => packF k nIv nMk nhA nAbc 0 2 1 3 (13 + i)) 8 = TS at *
  generalize strOf k 16 = SK at *
  have zk : (Tryd.prog.info? 23).map (·.zero) = some (some (.agg #[.string ⟨#[]⟩, .string ⟨#[]⟩, .string ⟨#[]⟩])) := by kernel_rfl
  go_enter Tryd.func15, Tryd.ntmps15
  go_upto_region 2 with (fail)
  have R0 : (w.alloc (.cells #[.string SK, .string ⟨#[49, 50, 51, 52, 53, 54, 55, 56, 57, 48, 49, 50]⟩, .string ⟨#[49, 50, 51, 52, 53, 54, 55, 56, 57, 48, 49, 50, 51, 52, 53, 54]⟩] 23)).heap[w.heap.size]? = some (.cells #[.string SK, .string ⟨#[49, 50, 51, 52, 53, 54, 55, 56, 57, 48, 49, 50]⟩, .string ⟨#[49, 50, 51, 52, 53, 54, 55, 56, 57, 48, 49, 50, 51, 52, 53, 54]⟩] 23 (0, 0)) := heap_alloc_last _ _
  have hb1 : Below w.heap.size w (w.alloc (.cells #[.string SK, .string ⟨#[49, 50, 51, 52, 53, 54, 55, 56, 57, 48, 49, 50]⟩, .string ⟨#[49, 50, 51, 52, 53, 54, 55, 56, 57, 48, 49, 50, 51, 52, 53, 54]⟩] 23)) := (Below.refl w.heap.size w).alloc (Nat.le_refl _) _
  generalize w.alloc _ = wa at *
  have B1 := Lib.hid hb1
  have CC := Lib.hid (fun (w' : World) (h : Below wa.heap.size wa w') => kys_cells ((h.block _ (lt_row R0)).trans R0))
  clear R0 hb1
  obtain ⟨c0, c1, c2⟩ := CC.out wa (Below.refl _ _)
  go_upto_region 3 with (go_at_call 10; refine (DA.out _).mono ?_; rintro e w2 ⟨rfl, hb⟩; have b2 := Lib.hid hb; clear hb)
  clear c0 c1 c2 DA
  obtain ⟨c0, c1, c2⟩ := CC.out w2 b2.out
  go_upto_region 4 with (go_at_call 10; refine (DB.out _).mono ?_; rintro e w3 ⟨rfl, hb⟩; have b3 := Lib.hid (b2.out.trans (hb.mono b2.out.size)); clear hb)
  clear c0 c1 c2 DB b2
  go_region
  go_wp2_with fail
  go_ret
  exact ⟨by simp, (B1.out.trans (b3.out.mono B1.out.size)).drew⟩
end Go.Proofs.YtjbpjoondmcnlabDoor
namespace Go.Proofs.YtjbpjoondmcnlabDoor
open Go Go.RowKit Go.BigFrame
set_option linter.unusedSimpArgs false
set_option linter.unusedVariables false
set_option maxRecDepth 100000
def SealErr (K I M : ByteArray) (f xs : Nat → BitVec 8) (m n : Nat) (S N : Int) (r : Int) : Prop :=
  ∀ (w' : World) (a a2 : Option Addr) (c c2 : Nat), m ≤ c → c ≤ maxLen → BytesIn w' a m f → BytesIn w' a2 n xs →
    Calls Tryd.prog 11 #[.agg (kysC K I M), .slice a m c, .int .i64 S, .int .i64 N, .slice a2 n c2] w' fun e w2 => e = .returned (.tuple #[.slice none 0 0, .int .i64 r]) ∧ Below w'.heap.size w' w2
def SealOk (k iv mk f xs : Nat → BitVec 8) (m n s : Nat) (N : Int) : Prop :=
  ∀ (w' : World) (a a2 : Option Addr) (c c2 : Nat), m ≤ c → c ≤ maxLen → BytesIn w' a m f → BytesIn w' a2 n xs →
    Calls Tryd.prog 11 #[.agg (kysC (strOf k 16) (strOf iv 12) (strOf mk 16)), .slice a m c, .int .i64 (s : Int), .int .i64 N, .slice a2 n c2] w'
      fun e w2 => ∃ g z c', e = .returned (.tuple #[.slice (some ⟨g, z, none⟩) (m + (n + 16)) c', .int .i64 0]) ∧ w'.heap.size ≤ g ∧ m + (n + 16) ≤ c' ∧ c' ≤ maxLen ∧ RowAt w2 g z (m + (n + 16)) (packF k iv mk f xs N m s n) ∧ Below w'.heap.size w' w2
theorem sealErr_of (K I M : ByteArray) (f xs : Nat → BitVec 8) (m n : Nat) (S N r : Int) (hr : r ≠ 0)
    (SL : ∀ (w' : World) (a a2 : Option Addr) (c c2 : Nat), m ≤ c → c ≤ maxLen → BytesIn w' a m f → Calls Tryd.prog 25 #[.agg (kysC K I M), .slice a m c, .int .i64 S, .int .i64 N, .slice a2 n c2] w' fun e w2 => e = .returned (.int .i64 r) ∧ Below w'.heap.size w' w2) :
    SealErr K I M f xs m n S N r := fun w' a a2 c c2 hc hcm hf hx => seal_bad K I M a a2 m c n c2 S N r w' hr (fun w2 hb => SL w2 a a2 c c2 hc hcm (bytesIn_later hf hb))
theorem seal_cases (K I M : ByteArray) (f xs : Nat → BitVec 8) (m n : Nat) (hm : m ≤ 4000) (hn : n ≤ 1000) (S N : Int) (hS0 : 0 - 9223372036854775808 ≤ S) (hS1 : S ≤ 9223372036854775807) :
    (∃ r, r ≠ 0 ∧ SealErr K I M f xs m n S N r) ∨ ∃ (k iv mk : Nat → BitVec 8) (s : Nat), K = strOf k 16 ∧ I = strOf iv 12 ∧ M = strOf mk 16 ∧ S = (s : Int) ∧ 1 ≤ s ∧ s ≤ 4 ∧ s + 1 ≤ m ∧ (0 ≤ N ∧ N ≤ 4611686018427387903) ∧ formOk f m s N ∧ 4 ≤ n + s ∧ SealOk k iv mk f xs m n s N := by
  by_cases hbad : badArg K.size I.size M.size m S N
  · exact .inl ⟨1, by decide, sealErr_of K I M f xs m n S N 1 (by decide) (fun w' a a2 c c2 _ _ _ => sealable_arg K I M _ _ _ rfl rfl rfl S N hS0 hS1 a a2 m c n c2 hm w' hbad)⟩
  · unfold badArg at hbad
    have h0 : 0 ≤ N ∧ N ≤ 4611686018427387903 := Decidable.byContradiction fun h => hbad (.inr (.inr (.inl h)))
    have hk : K.size = 16 ∧ I.size = 12 ∧ M.size = 16 := Decidable.byContradiction fun h => hbad (.inr (.inr (.inr (.inl h))))
    obtain ⟨s, rfl⟩ : ∃ s : Nat, S = (s : Int) := ⟨S.toNat, by omega⟩
    have hs1 : 1 ≤ s := by omega
    have hs4 : s ≤ 4 := by omega
    have hsm : s + 1 ≤ m := by omega
    obtain ⟨k, rfl⟩ := str_of K 16 hk.1
    obtain ⟨iv, rfl⟩ := str_of I 12 hk.2.1
    obtain ⟨mk, rfl⟩ := str_of M 16 hk.2.2
    have SLr := fun (r : Int) (hr : (¬ formOk f m s N ∧ r = 2) ∨ (formOk f m s N ∧ n + s < 4 ∧ r = 3) ∨ (formOk f m s N ∧ ¬ n + s < 4 ∧ 65000 < n ∧ r = 5) ∨ (formOk f m s N ∧ ¬ n + s < 4 ∧ ¬ 65000 < n ∧ r = 0)) (w' : World) (a a2 : Option Addr) (c c2 : Nat) (hc : m ≤ c) (hf : BytesIn w' a m f) =>
      sealable_ok (strOf k 16) (strOf iv 12) (strOf mk 16) (strOf_size _ _) (strOf_size _ _) (strOf_size _ _) N h0.1 h0.2 s hs1 hs4 a a2 m c n c2 f hm hc w' hsm hf r hr
    by_cases hform : formOk f m s N
    · by_cases hns : n + s < 4
      · exact .inl ⟨3, by decide, sealErr_of _ _ _ f xs m n s N 3 (by decide) (fun w' a a2 c c2 hc _ hf => SLr 3 (.inr (.inl ⟨hform, hns, rfl⟩)) w' a a2 c c2 hc hf)⟩
      · have hn5 : ¬ 65000 < n := by omega
        refine .inr ⟨k, iv, mk, s, rfl, rfl, rfl, rfl, hs1, hs4, hsm, h0, hform, by omega, ?_⟩
        intro w' a a2 c c2 hc hcm hf hx
        exact seal_ok k iv mk f xs N h0.1 h0.2 s m n hs1 hs4 hm hsm hns hn5 a a2 c c2 hc hcm w' hf hx (fun w2 hb => SLr 0 (.inr (.inr (.inr ⟨hform, hns, hn5, rfl⟩))) w2 a a2 c c2 hc (bytesIn_later hf hb))
    · exact .inl ⟨2, by decide, sealErr_of _ _ _ f xs m n s N 2 (by decide) (fun w' a a2 c c2 hc _ hf => SLr 2 (.inl ⟨hform, rfl⟩) w' a a2 c c2 hc hf)⟩
theorem seal_two (K I M : ByteArray) (f xs : Nat → BitVec 8) (m n : Nat) (hm : m ≤ 4000) (hn : n ≤ 1000) (S N : Int) (hS0 : 0 - 9223372036854775808 ≤ S) (hS1 : S ≤ 9223372036854775807) :
    ∃ (r : Int) (PV : World → Value → World → Prop), (∀ (w' : World) (a a2 : Option Addr) (c c2 : Nat), m ≤ c → c ≤ maxLen → BytesIn w' a m f → BytesIn w' a2 n xs →
        Calls Tryd.prog 11 #[.agg (kysC K I M), .slice a m c, .int .i64 S, .int .i64 N, .slice a2 n c2] w' fun e w2 => ∃ v, e = .returned (.tuple #[v, .int .i64 r]) ∧ PV w' v w2 ∧ Below w'.heap.size w' w2)
      ∧ (r ≠ 0 ∨ r = 0 ∧ ∃ (k iv mk : Nat → BitVec 8) (s : Nat), K = strOf k 16 ∧ I = strOf iv 12 ∧ M = strOf mk 16 ∧ S = (s : Int) ∧ 1 ≤ s ∧ s ≤ 4 ∧ s + 1 ≤ m ∧ (0 ≤ N ∧ N ≤ 4611686018427387903) ∧ formOk f m s N ∧ 4 ≤ n + s ∧
        ∀ w' v w2, PV w' v w2 → ∃ g z c', v = .slice (some ⟨g, z, none⟩) (m + (n + 16)) c' ∧ w'.heap.size ≤ g ∧ m + (n + 16) ≤ c' ∧ c' ≤ maxLen ∧ RowAt w2 g z (m + (n + 16)) (packF k iv mk f xs N m s n)) := by
  rcases seal_cases K I M f xs m n hm hn S N hS0 hS1 with ⟨r, hr, SE⟩ | ⟨k, iv, mk, s, rfl, rfl, rfl, rfl, hs1, hs4, hsm, h0, hform, hn4, SO⟩
  · refine ⟨r, fun _ _ _ => True, fun w' a a2 c c2 hc hcm hf hx => (SE w' a a2 c c2 hc hcm hf hx).mono ?_, .inl hr⟩
    rintro e w2 ⟨rfl, hb⟩
    exact ⟨_, rfl, trivial, hb⟩
  · refine ⟨0, fun w' v w2 => ∃ g z c', v = .slice (some ⟨g, z, none⟩) (m + (n + 16)) c' ∧ w'.heap.size ≤ g ∧ m + (n + 16) ≤ c' ∧ c' ≤ maxLen ∧ RowAt w2 g z (m + (n + 16)) (packF k iv mk f xs N m s n), fun w' a a2 c c2 hc hcm hf hx => (SO w' a a2 c c2 hc hcm hf hx).mono ?_, .inr ⟨rfl, k, iv, mk, s, rfl, rfl, rfl, rfl, hs1, hs4, hsm, h0, hform, hn4, fun _ _ _ h => h⟩⟩
    rintro e w2 ⟨g, z, c', rfl, hg, hc', hcm', ra, hb⟩
    exact ⟨_, rfl, ⟨g, z, c', rfl, hg, hc', hcm', ra⟩, hb⟩
section
variable (k iv mk f xs : Nat → BitVec 8) (N : Int) (m s n : Nat)
theorem open_back (hs1 : 1 ≤ s) (hs4 : s ≤ 4) (hsm : s + 1 ≤ m) (hn4 : 4 ≤ n + s) (hform : formOk f m s N) (E : Int) (h0 : 0 ≤ N) (h1 : N ≤ 4611686018427387903) (e0 : 0 ≤ E) (e1 : E ≤ 4611686018427387903) (hn : N - E < 2 ^ (8 * s - 1)) (hn2 : E - N ≤ 2 ^ (8 * s - 1) / 2)
    (hm : m ≤ 1000) (hnn : n ≤ 1000) (g z c : Nat) (hc : m + (n + 16) ≤ c) (hcm : c ≤ maxLen) (w : World) (hR : RowAt w g z (m + (n + 16)) (packF k iv mk f xs N m s n)) :
    Calls Tryd.prog 14 #[.agg (kysC (strOf k 16) (strOf iv 12) (strOf mk 16)), .slice (some ⟨g, z, none⟩) (m + (n + 16)) c, .int .i64 ((m : Int) - (s : Int)), .int .i64 E] w
      fun e w' => ∃ g1 c1 r1, e = .returned (.tuple #[.slice (some ⟨g1, 0, none⟩) m c1, .int .i64 N, .slice (some ⟨r1, 0, none⟩) n n, .int .i64 0]) ∧ BytesIn w' (some ⟨g1, 0, none⟩) m f ∧ BytesIn w' (some ⟨r1, 0, none⟩) n xs ∧ Below w.heap.size w w' := by
  obtain ⟨hS, hh, _⟩ := back_front k iv mk f xs N m s n hs1 hs4 hsm hn4 hform _ (fun i _ => rfl)
  obtain ⟨hO, hC⟩ := back_open k iv mk f xs N m s n hs1 hs4 hsm hn4 hform E h0 h1 e0 e1 hn hn2
  have hN := back_number k iv mk f xs N m s n hs1 hs4 hsm hn4 hform _ (fun i _ => rfl) E h0 h1 e0 e1 hn hn2
  have h := gopen_any k iv mk (packF k iv mk f xs N m s n) E e0 e1 (m - s) (m + (n + 16)) s (by omega) (by omega) (by omega) hS g z c hc hcm w (hR.bytesIn (by unfold maxLen; omega))
  rw [show ((m - s : Nat) : Int) = (m : Int) - (s : Int) by omega, show m - s + s = m by omega, show m + (n + 16) - m - 16 = n by omega, hN] at h
  refine h.mono ?_
  rintro e w' ⟨hb, ⟨_, g1, c1, r1, rfl, _, _, i1, i2⟩ | ⟨hx, _⟩⟩
  · exact ⟨g1, c1, r1, rfl, ⟨i1.1, i1.2.imp id (fun ⟨b, o, ea, hl, hcc⟩ => ⟨b, o, ea, hl, fun i hi => by rw [← hh i hi]; exact hcc i hi⟩)⟩, ⟨i2.1, i2.2.imp id (fun ⟨b, o, ea, hl, hcc⟩ => ⟨b, o, ea, hl, fun i hi => by rw [← hC i hi]; exact hcc i hi⟩)⟩, hb⟩
  · rw [hO] at hx; cases hx
theorem open_spoilt (hs1 : 1 ≤ s) (hs4 : s ≤ 4) (hsm : s + 1 ≤ m) (hn4 : 4 ≤ n + s) (hform : formOk f m s N) (E : Int) (h0 : 0 ≤ N) (h1 : N ≤ 4611686018427387903) (e0 : 0 ≤ E) (e1 : E ≤ 4611686018427387903) (hn : N - E < 2 ^ (8 * s - 1)) (hn2 : E - N ≤ 2 ^ (8 * s - 1) / 2)
    (hm : m ≤ 1000) (hnn : n ≤ 1000) (g z c : Nat) (hc : m + (n + 16) ≤ c) (hcm : c ≤ maxLen) (j : Nat) (hj : m - s + 20 ≤ j) (hj2 : j < m + (n + 16)) (x : BitVec 8) (hx : x ≠ packF k iv mk f xs N m s n j) (w : World) (hR : RowAt w g z (m + (n + 16)) (updb (packF k iv mk f xs N m s n) j x)) :
    Calls Tryd.prog 14 #[.agg (kysC (strOf k 16) (strOf iv 12) (strOf mk 16)), .slice (some ⟨g, z, none⟩) (m + (n + 16)) c, .int .i64 ((m : Int) - (s : Int)), .int .i64 E] w
      fun e w' => ∃ v1 n1 v3 r, e = .returned (.tuple #[v1, .int .i64 n1, v3, .int .i64 r]) ∧ (hOf (sched k) ≠ ⟨0#64, 0#64⟩ → r = 4) ∧ Below w.heap.size w w' := by
  have hF : ∀ i, i < m - s + 20 → updb (packF k iv mk f xs N m s n) j x i = packF k iv mk f xs N m s n i := fun i hi => by unfold updb; rw [if_neg (by omega)]
  obtain ⟨hS, _, _⟩ := back_front k iv mk f xs N m s n hs1 hs4 hsm hn4 hform _ hF
  have h := gopen_any k iv mk (updb (packF k iv mk f xs N m s n) j x) E e0 e1 (m - s) (m + (n + 16)) s (by omega) (by omega) (by omega) hS g z c hc hcm w (hR.bytesIn (by unfold maxLen; omega))
  rw [show ((m - s : Nat) : Int) = (m : Int) - (s : Int) by omega] at h
  refine h.mono ?_
  rintro e w' ⟨hb, ⟨hx1, g1, c1, r1, rfl, _⟩ | ⟨_, rfl⟩⟩
  · refine ⟨_, _, _, _, rfl, fun hH => ?_, hb⟩
    have := (back_spoilt k iv mk f xs N m s n hs1 hs4 hsm hn4 hform E h0 h1 e0 e1 hn hn2 hH j hj hj2 x hx).2
    rw [this] at hx1
    cases hx1
  · exact ⟨_, _, _, _, rfl, fun _ => rfl, hb⟩
end
end Go.Proofs.YtjbpjoondmcnlabDoor
namespace Go.Proofs.YtjbpjoondmcnlabDoor
open Go Go.RowKit Go.BigFrame
set_option linter.unusedSimpArgs false
set_option linter.unusedVariables false
set_option maxRecDepth 100000
def tnC (K I M H : ByteArray) (S N : Int) (C : ByteArray) (E : Int) (F : Bool) (far at_ : Int) (bt : BitVec 8) : Array Value := #[.string K, .string I, .string M, .string H, .int .i64 S, .int .i64 N, .string C, .int .i64 E, .bool F, .int .i64 far, .int .i64 at_, .int .u8 (n8 bt)]
theorem tn_cells {w : World} {b : Nat} {T : TypeId} {K I M H C : ByteArray} {S N E far at_ : Int} {F : Bool} {bt : BitVec 8} (h : w.heap[b]? = some (.cells (tnC K I M H S N C E F far at_ bt) T (0, 0))) :
    (w.cell? ⟨b, 0, none⟩ = some (.string K) ∧ w.cell? ⟨b, 1, none⟩ = some (.string I) ∧ w.cell? ⟨b, 2, none⟩ = some (.string M) ∧ w.cell? ⟨b, 3, none⟩ = some (.string H) ∧ w.cell? ⟨b, 4, none⟩ = some (.int .i64 S) ∧ w.cell? ⟨b, 5, none⟩ = some (.int .i64 N) ∧ w.cell? ⟨b, 6, none⟩ = some (.string C) ∧ w.cell? ⟨b, 7, none⟩ = some (.int .i64 E) ∧ w.cell? ⟨b, 8, none⟩ = some (.bool F))
      ∧ w.cell? ⟨b, 9, none⟩ = some (.int .i64 far) ∧ w.cell? ⟨b, 10, none⟩ = some (.int .i64 at_) ∧ w.cell? ⟨b, 11, none⟩ = some (.int .u8 (n8 bt)) := by
  refine ⟨⟨?_, ?_, ?_, ?_, ?_, ?_, ?_, ?_, ?_⟩, ?_, ?_, ?_⟩ <;> rw [cell_of_row _ _ _ _ _ _ h] <;> rfl
theorem index_of (hm s cm A DD : Nat) (hsm : s + 1 ≤ hm) (hs4 : s ≤ 4) (hm64 : hm ≤ 64) (hcm : cm ≤ 300) (hD0 : ¬ DD = 0) (hDD : cm + s - 4 = DD) : ∃ J : Nat, wrap64 ((hm : Int) - (s : Int) + 20 + wrap64 ((A : Int) % (DD : Int))) = (J : Int) ∧ hm - s + 20 ≤ J ∧ J < hm + (cm + 16) := by
  have h1 : A % DD < DD := Nat.mod_lt _ (by omega)
  have h2 : (A : Int) % (DD : Int) = ((A % DD : Nat) : Int) := by simp
  rw [h2]
  generalize A % DD = R at *
  refine ⟨hm - s + 20 + R, ?_, by omega, by omega⟩
  unfold wrap64
  omega
set_option maxHeartbeats 32000000 in
theorem backs_any (K I M Hd C : ByteArray) (S N E : Int) (F : Bool) (far at_ : Int) (bt : BitVec 8) (hS0 : 0 - 9223372036854775808 ≤ S) (hS1 : S ≤ 9223372036854775807) (w : World) (T : TabK w) :
    Calls Tryd.prog 5 #[.agg (tnC K I M Hd S N C E F far at_ bt)] w fun e w' => e = .returned (.bool true) ∧ Below w.heap.size w w' := by
  obtain ⟨hf, hHd⟩ := str_of Hd Hd.size rfl
  obtain ⟨xs, hC⟩ := str_of C C.size rfl
  generalize Hd.size = hn at *
  generalize C.size = cn at *
  subst hHd hC
  have R0 : (w.alloc (.cells (tnC K I M (strOf hf hn) S N (strOf xs cn) E F far at_ bt) 45)).heap[w.heap.size]? = some (.cells (tnC K I M (strOf hf hn) S N (strOf xs cn) E F far at_ bt) 45 (0, 0)) := heap_alloc_last _ _
  have R1 : ((w.alloc (.cells (tnC K I M (strOf hf hn) S N (strOf xs cn) E F far at_ bt) 45)).alloc (.cells (pkC K I M (strOf hf hn) S N (strOf xs cn) E F) 25)).heap[w.heap.size + 1]? = some (.cells (pkC K I M (strOf hf hn) S N (strOf xs cn) E F) 25 (0, 0)) := rows_alloc w [_, _] 1
  have hb1 : Below w.heap.size w ((w.alloc (.cells (tnC K I M (strOf hf hn) S N (strOf xs cn) E F far at_ bt) 45)).alloc (.cells (pkC K I M (strOf hf hn) S N (strOf xs cn) E F) 25)) := ((Below.refl w.heap.size w).alloc (Nat.le_refl _) _).alloc (by simp) _
  have R01 : ((w.alloc (.cells (tnC K I M (strOf hf hn) S N (strOf xs cn) E F far at_ bt) 45)).alloc (.cells (pkC K I M (strOf hf hn) S N (strOf xs cn) E F) 25)).heap[w.heap.size]? = some (.cells (tnC K I M (strOf hf hn) S N (strOf xs cn) E F far at_ bt) 45 (0, 0)) := rows_alloc w [_, _] 0
  have HB1 := Lib.hid hb1
  have HR1 := Lib.hid R1
  have HR01 := Lib.hid R01
  have FT := Lib.hid (fun w' => fit_any K I M (strOf xs cn) hf hn S N E true w')
  have hk : min cn 300 ≤ cn := by omega
  have su := Lib.hid (fun w' => run_str_upto xs cn (min cn 300) ((min cn 300 : Nat) : Int) rfl hk w')
  have HE := Lib.hid (show (if (300 : Int) < (cn : Int) then (300 : Int) else (cn : Int)) = ((min cn 300 : Nat) : Int) by split <;> omega)
  have hsz := strOf_size xs cn
  have hk2 : min cn 300 ≤ 300 := by omega
  generalize min cn 300 = cm at *
  obtain ⟨⟨c0, c1, c2, c3, c4, c5, c6, c7, c8⟩, cz⟩ := tn_cells R0
  clear cz
  clear R0 R1 R01 hb1
  unfold tnC pkC at *
  generalize strOf hf hn = SH at *
  generalize strOf xs cn = SC at *
  go_enter Tryd.func5, Tryd.ntmps5
  go_upto_region 2 with (fail)
  clear c0 c1 c2 c3 c4 c5 c6 c7 c8
  generalize World.alloc _ _ = wb at *
  have hc8 : wb.cell? ⟨w.heap.size + 1, 8, none⟩ = some (.bool F) := by rw [cell_of_row _ _ _ _ _ _ HR1.out]; rfl
  have hf8 : wb.frozen? ⟨w.heap.size + 1, 8, none⟩ = false := frozen_of_row _ _ _ _ _ HR1.out
  go_upto_region 3 with (fail)
  clear hc8 hf8
  have s8 := rowSet_cell wb (w.heap.size + 1) 8 _ _ (.bool true) HR1.out
  have X2 := Lib.hid s8.row
  have T2 := Lib.hid (s8.keep (show w.heap.size ≠ w.heap.size + 1 by omega) HR01.out)
  have B2 := Lib.hid (HB1.out.trans (s8.below _ (Nat.le_succ _)))
  clear s8 HR1 HR01
  generalize wb.setCell _ _ = wc at *
  have QX := Lib.hid (lt_row X2.out)
  have QT := Lib.hid (lt_row T2.out)
  have CX := Lib.hid (fun (w' : World) (h : Below wc.heap.size wc w') => show w'.cell? ⟨w.heap.size + 1, 0, none⟩ = some (.string K) ∧ w'.cell? ⟨w.heap.size + 1, 1, none⟩ = some (.string I) ∧ w'.cell? ⟨w.heap.size + 1, 2, none⟩ = some (.string M) ∧ w'.cell? ⟨w.heap.size + 1, 3, none⟩ = some (.string SH) ∧ w'.cell? ⟨w.heap.size + 1, 4, none⟩ = some (.int .i64 S) ∧ w'.cell? ⟨w.heap.size + 1, 5, none⟩ = some (.int .i64 N) ∧ w'.cell? ⟨w.heap.size + 1, 6, none⟩ = some (.string SC) ∧ w'.cell? ⟨w.heap.size + 1, 7, none⟩ = some (.int .i64 E) ∧ w'.cell? ⟨w.heap.size + 1, 8, none⟩ = some (.bool true) from pk_cells ((h.block _ QX.out).trans X2.out))
  have CT := Lib.hid (fun (w' : World) (h : Below wc.heap.size wc w') => (tn_cells ((h.block _ QT.out).trans T2.out)).2)
  have GD := Lib.hid (fun (w' : World) (h : Below wc.heap.size wc w') => guards_any w' (T.later (B2.out.trans (h.mono B2.out.size))))
  clear X2 T2 HB1 T
  refine region_anyM mixedOrders ?_
  refine anyM_take (i := 0) (oi := ⟨some 20, _, _, _, _, _⟩) (v := .agg #[.string K, .string I, .string M, .string SH, .int .i64 S, .int .i64 N, .string SC, .int .i64 E, .bool true]) rfl (by kernel_rfl) (by kernel_rfl) (by kernel_rfl) (fun _ _ _ h => h) (.inl ⟨by rfl, fun w2 hw2 => ?_⟩) ?_
  · have hx : Below wc.drew.heap.size wc.drew w2 := hw2
    obtain ⟨d0, d1, d2, d3, d4, d5, d6, d7, d8⟩ := CX.out w2 ((Below.refl wc.heap.size wc).drew.trans hx)
    clear hw2 hx
    go_simp
  simp only [Act.put, List.setIfInBounds_toArray, List.set_cons_succ, List.set_cons_zero]
  refine anyM_take (i := 2) (oi := ⟨some 22, _, _, _, _, _⟩) (v := .pointer (some ⟨w.heap.size + 1, 6, none⟩)) rfl (by kernel_rfl) (by kernel_rfl) (by kernel_rfl) (fun _ _ _ h => h) (.inl ⟨by rfl, fun w2 hw2 => ?_⟩) ?_
  · clear hw2
    go_simp
  simp only [Act.put, List.setIfInBounds_toArray, List.set_cons_succ, List.set_cons_zero]
  refine anyM_take (i := 3) (oi := ⟨some 23, _, _, _, _, _⟩) (v := .string SC) rfl (by kernel_rfl) (by kernel_rfl) (by kernel_rfl) (fun _ _ _ h => h) (.inl ⟨by rfl, fun w2 hw2 => ?_⟩) ?_
  · have hx : Below wc.drew.heap.size wc.drew w2 := hw2
    have d6 := (CX.out w2 ((Below.refl wc.heap.size wc).drew.trans hx)).2.2.2.2.2.2.1
    clear hw2 hx
    go_simp
  simp only [Act.put, List.setIfInBounds_toArray, List.set_cons_succ, List.set_cons_zero]
  refine anyM_take (i := 4) (oi := ⟨some 24, _, _, _, _, _⟩) (v := .pointer (some ⟨w.heap.size + 1, 6, none⟩)) rfl (by kernel_rfl) (by kernel_rfl) (by kernel_rfl) (fun _ _ _ h => h) (.inl ⟨by rfl, fun w2 hw2 => ?_⟩) ?_
  · clear hw2
    go_simp
  simp only [Act.put, List.setIfInBounds_toArray, List.set_cons_succ, List.set_cons_zero]
  refine anyM_take (i := 5) (oi := ⟨some 25, _, _, _, _, _⟩) (v := .string SC) rfl (by kernel_rfl) (by kernel_rfl) (by kernel_rfl) (fun _ _ _ h => h) (.inl ⟨by rfl, fun w2 hw2 => ?_⟩) ?_
  · have hx : Below wc.drew.heap.size wc.drew w2 := hw2
    have d6 := (CX.out w2 ((Below.refl wc.heap.size wc).drew.trans hx)).2.2.2.2.2.2.1
    clear hw2 hx
    go_simp
  simp only [Act.put, List.setIfInBounds_toArray, List.set_cons_succ, List.set_cons_zero]
  refine anyM_take (i := 6) (oi := ⟨some 26, _, _, _, _, _⟩) (v := .int .i64 (cn : Int)) rfl (by kernel_rfl) (by kernel_rfl) (by kernel_rfl) (fun _ _ _ h => h) (.inl ⟨by rfl, fun w2 hw2 => ?_⟩) ?_
  · clear hw2
    go_simp
  simp only [Act.put, List.setIfInBounds_toArray, List.set_cons_succ, List.set_cons_zero]
  refine anyM_take (i := 7) (oi := ⟨some 27, _, _, _, _, _⟩) (v := .int .i64 (cm : Int)) rfl (by kernel_rfl) (by kernel_rfl) (by kernel_rfl) (fun _ _ _ h => h) (.inl ⟨by rfl, fun w2 hw2 => ?_⟩) ?_
  · have hE := HE.out
    clear hw2
    go_simp
  simp only [Act.put, List.setIfInBounds_toArray, List.set_cons_succ, List.set_cons_zero]
  refine anyM_take (i := 8) (oi := ⟨some 28, _, _, _, _, _⟩) (v := .string (strOf xs cm)) rfl (by kernel_rfl) (by kernel_rfl) (by kernel_rfl) (fun _ _ _ h => h) (.inl ⟨by rfl, fun w2 hw2 => ?_⟩) ?_
  · have hsu := su.out
    clear hw2
    go_simp
  simp only [Act.put, List.setIfInBounds_toArray, List.set_cons_succ, List.set_cons_zero]
  refine anyM_call (i := 1) (o := ⟨some 21, _, _, _, _, _⟩) 9 #[.agg #[.string K, .string I, .string M, .string SH, .int .i64 S, .int .i64 N, .string SC, .int .i64 E, .bool true]] (by kernel_rfl) rfl (by rfl) (fun w2 => by go_simp) (fun w2 hw2 => ?_)
  have b2 : Below wc.drew.heap.size wc.drew w2 := hw2
  refine (FT.out w2).mono ?_
  rintro e w3 ⟨gh, hm, rfl, hm64, hb3⟩
  refine ⟨_, rfl, hb3, ?_⟩
  have b3 := Lib.hid ((Below.refl wc.heap.size wc).drew.trans (b2.trans (hb3.mono b2.size)))
  clear b2 hw2 hb3 FT su
  simp only [Act.put, List.setIfInBounds_toArray, List.set_cons_succ, List.set_cons_zero]
  have szG := strOf_size gh hm
  have szX := strOf_size xs cm
  obtain ⟨r, PV, hSE, hPV⟩ := seal_two K I M gh xs hm cm (by omega) (by omega) S N hS0 hS1
  have SE := Lib.hid hSE
  have HPV := Lib.hid hPV
  clear hSE hPV
  unfold kysC at SE
  have CG := Lib.hid (fun (w' : World) => conv_ownZ gh hm (by omega) w' w'.heap.size (Nat.le_refl _))
  have CXS := Lib.hid (fun (w' : World) => conv_ownZ xs cm (by omega) w' w'.heap.size (Nat.le_refl _))
  have VG := Lib.hid (fun (a : Option Addr) (c : Nat) (w' : World) (h : BytesIn w' a hm gh) => conv_in gh a hm c w' h)
  have VX := Lib.hid (fun (a : Option Addr) (c : Nat) (w' : World) (h : BytesIn w' a cm xs) => conv_in xs a cm c w' h)
  generalize strOf gh hm = SG at *
  generalize strOf xs cm = SX at *
  refine anyM_take (i := 9) (oi := ⟨some 4, _, _, _, _, _⟩) (v := .string SG) rfl (by kernel_rfl) (by kernel_rfl) (by kernel_rfl) (fun _ _ _ h => h) (.inl ⟨by rfl, fun w2 hw2 => ?_⟩) ?_
  · clear hw2
    go_simp
  simp only [Act.put, List.setIfInBounds_toArray, List.set_cons_succ, List.set_cons_zero]
  refine anyM_take (i := 10) (oi := ⟨some 5, _, _, _, _, _⟩) (v := .string SX) rfl (by kernel_rfl) (by kernel_rfl) (by kernel_rfl) (fun _ _ _ h => h) (.inl ⟨by rfl, fun w2 hw2 => ?_⟩) ?_
  · clear hw2
    go_simp
  simp only [Act.put, List.setIfInBounds_toArray, List.set_cons_succ, List.set_cons_zero]
  refine anyM_done (by kernel_rfl) (fun w4 hw4 => ?_)
  have B4 := Lib.hid (b3.out.trans (Below.mono (show Below w3.heap.size w3 w4 from hw4) b3.out.size))
  clear hw4 b3
  go_upto_region 4 with (fail)
  refine region_anyM mixedOrders ?_
  refine anyM_take (i := 0) (oi := ⟨some 30, _, _, _, _, _⟩) (v := .pointer (some ⟨w.heap.size + 1, 0, none⟩)) rfl (by kernel_rfl) (by kernel_rfl) (by kernel_rfl) (fun _ _ _ h => h) (.inl ⟨by rfl, fun w2 hw2 => ?_⟩) ?_
  · clear hw2
    go_simp
  simp only [Act.put, List.setIfInBounds_toArray, List.set_cons_succ, List.set_cons_zero]
  refine anyM_take (i := 1) (oi := ⟨some 31, _, _, _, _, _⟩) (v := .agg #[.string K, .string I, .string M]) rfl (by kernel_rfl) (by kernel_rfl) (by kernel_rfl) (fun _ _ _ h => h) (.inl ⟨by rfl, fun w2 hw2 => ?_⟩) ?_
  · have hx : Below w4.drew.heap.size w4.drew w2 := hw2
    obtain ⟨d0, d1, d2, _⟩ := CX.out w2 (B4.out.drew.trans (hx.mono B4.out.drew.size))
    clear hw2 hx
    go_simp
  simp only [Act.put, List.setIfInBounds_toArray, List.set_cons_succ, List.set_cons_zero]
  refine anyM_take (i := 2) (oi := ⟨some 32, _, _, _, _, _⟩) (v := .agg #[.string K, .string I, .string M]) rfl (by kernel_rfl) (by kernel_rfl) (by kernel_rfl) (fun _ _ _ h => h) (.inl ⟨by rfl, fun w2 hw2 => ?_⟩) ?_
  · go_simp
    go_at_call 12
    refine (to_any K I M w2).mono ?_
    rintro e w6 ⟨rfl, hb6⟩
    exact ⟨rfl, hb6⟩
  simp only [Act.put, List.setIfInBounds_toArray, List.set_cons_succ, List.set_cons_zero]
  refine anyM_take (i := 3) (oi := ⟨some 33, _, _, _, _, _⟩) (v := .string SG) rfl (by kernel_rfl) (by kernel_rfl) (by kernel_rfl) (fun _ _ _ h => h) (.inl ⟨by rfl, fun w2 hw2 => ?_⟩) ?_
  · clear hw2
    go_simp
  simp only [Act.put, List.setIfInBounds_toArray, List.set_cons_succ, List.set_cons_zero]
  refine anyM_take (i := 5) (oi := ⟨some 35, _, _, _, _, _⟩) (v := .pointer (some ⟨w.heap.size + 1, 4, none⟩)) rfl (by kernel_rfl) (by kernel_rfl) (by kernel_rfl) (fun _ _ _ h => h) (.inl ⟨by rfl, fun w2 hw2 => ?_⟩) ?_
  · clear hw2
    go_simp
  simp only [Act.put, List.setIfInBounds_toArray, List.set_cons_succ, List.set_cons_zero]
  refine anyM_take (i := 6) (oi := ⟨some 36, _, _, _, _, _⟩) (v := .int .i64 S) rfl (by kernel_rfl) (by kernel_rfl) (by kernel_rfl) (fun _ _ _ h => h) (.inl ⟨by rfl, fun w2 hw2 => ?_⟩) ?_
  · have hx : Below w4.drew.heap.size w4.drew w2 := hw2
    have d4 := (CX.out w2 (B4.out.drew.trans (hx.mono B4.out.drew.size))).2.2.2.2.1
    clear hw2 hx
    go_simp
  simp only [Act.put, List.setIfInBounds_toArray, List.set_cons_succ, List.set_cons_zero]
  refine anyM_take (i := 7) (oi := ⟨some 37, _, _, _, _, _⟩) (v := .pointer (some ⟨w.heap.size + 1, 5, none⟩)) rfl (by kernel_rfl) (by kernel_rfl) (by kernel_rfl) (fun _ _ _ h => h) (.inl ⟨by rfl, fun w2 hw2 => ?_⟩) ?_
  · clear hw2
    go_simp
  simp only [Act.put, List.setIfInBounds_toArray, List.set_cons_succ, List.set_cons_zero]
  refine anyM_take (i := 8) (oi := ⟨some 38, _, _, _, _, _⟩) (v := .int .i64 N) rfl (by kernel_rfl) (by kernel_rfl) (by kernel_rfl) (fun _ _ _ h => h) (.inl ⟨by rfl, fun w2 hw2 => ?_⟩) ?_
  · have hx : Below w4.drew.heap.size w4.drew w2 := hw2
    have d5 := (CX.out w2 (B4.out.drew.trans (hx.mono B4.out.drew.size))).2.2.2.2.2.1
    clear hw2 hx
    go_simp
  simp only [Act.put, List.setIfInBounds_toArray, List.set_cons_succ, List.set_cons_zero]
  refine anyM_take (i := 9) (oi := ⟨some 39, _, _, _, _, _⟩) (v := .string SX) rfl (by kernel_rfl) (by kernel_rfl) (by kernel_rfl) (fun _ _ _ h => h) (.inl ⟨by rfl, fun w2 hw2 => ?_⟩) ?_
  · clear hw2
    go_simp
  simp only [Act.put, List.setIfInBounds_toArray, List.set_cons_succ, List.set_cons_zero]
  refine anyM_both (i := 4) (j := 10) (o := ⟨some 34, _, _, _, _, _⟩) (o' := ⟨some 40, _, _, _, _, _⟩) (d := 34) (d' := 40)
    (fun v w' => ∃ a c, v = .slice a hm c ∧ hm ≤ c ∧ c ≤ maxLen ∧ BytesIn w' a hm gh) (fun v w' => ∃ a c, v = .slice a cm c ∧ cm ≤ c ∧ c ≤ maxLen ∧ BytesIn w' a cm xs)
    (by kernel_rfl) (by kernel_rfl) (by kernel_rfl) (by decide) rfl rfl rfl rfl (by decide) rfl rfl
    (fun v w w' h ⟨a, c, e, h1, h2, h3⟩ => ⟨a, c, e, h1, h2, bytesIn_later h3 h⟩) (fun v w w' h ⟨a, c, e, h1, h2, h3⟩ => ⟨a, c, e, h1, h2, bytesIn_later h3 h⟩)
    (fun a2 ha2 w2 hw2 => ?_) (fun a2 ha2 w2 hw2 => ?_) (fun v v' w5 hw5 hv hv' => ?_)
  · obtain ⟨v6, w6, hcv, o6, b6⟩ := CG.out w2
    obtain ⟨ah, ch, rfl, hch, hchm, inh⟩ := o6.bytes'
    obtain rfl | ⟨v9, rfl⟩ := ha2
    · exact ⟨.slice ah hm ch, w6, by go_simp, b6, ah, ch, rfl, hch, hchm, inh⟩
    · exact ⟨.slice ah hm ch, w6, by simp only [Act.put, List.setIfInBounds_toArray, List.set_cons_succ, List.set_cons_zero]; go_simp, b6, ah, ch, rfl, hch, hchm, inh⟩
  · obtain ⟨v6, w6, hcv, o6, b6⟩ := CXS.out w2
    obtain ⟨ah, ch, rfl, hch, hchm, inh⟩ := o6.bytes'
    obtain rfl | ⟨v9, rfl⟩ := ha2
    · exact ⟨.slice ah cm ch, w6, by go_simp, b6, ah, ch, rfl, hch, hchm, inh⟩
    · exact ⟨.slice ah cm ch, w6, by simp only [Act.put, List.setIfInBounds_toArray, List.set_cons_succ, List.set_cons_zero]; go_simp, b6, ah, ch, rfl, hch, hchm, inh⟩
  obtain ⟨ah, ch, rfl, hch, hchm, inh⟩ := hv
  obtain ⟨ax, cx, rfl, hcx, hcxm, inx⟩ := hv'
  simp only [Act.put, List.setIfInBounds_toArray, List.set_cons_succ, List.set_cons_zero]
  have B5 := Lib.hid (B4.out.drew.trans (Below.mono (show Below w4.drew.heap.size w4.drew w5 from hw5) B4.out.drew.size))
  have INH := Lib.hid inh
  have INX := Lib.hid inx
  clear hw5 inh inx B4 CG CXS
  refine anyM_call (i := 11) (o := ⟨some 41, _, _, _, _, _⟩) 11 #[.agg #[.string K, .string I, .string M], .slice ah hm ch, .int .i64 S, .int .i64 N, .slice ax cm cx] (by kernel_rfl) rfl (by rfl) (fun w2 => by go_simp) (fun wa hwa => ?_)
  have ba : Below w5.heap.size w5 wa := hwa
  refine (SE.out wa ah ax ch cx hch hchm (bytesIn_later INH.out ba) (bytesIn_later INX.out ba)).mono ?_
  rintro e w6 ⟨sv, rfl, hpv, hb6⟩
  refine ⟨_, rfl, hb6, ?_⟩
  have PVH := Lib.hid hpv
  have ba5 := B5.out.trans (ba.mono B5.out.size)
  have B6 := Lib.hid (ba5.trans (hb6.mono ba5.size))
  have WA := Lib.hid (show wc.heap.size ≤ wa.heap.size from ba5.size)
  clear hpv hwa ba hb6 ba5 B5 INH INX SE
  simp only [Act.put, List.setIfInBounds_toArray, List.set_cons_succ, List.set_cons_zero]
  refine anyM_take (i := 12) (oi := ⟨some 29, _, _, _, _, _⟩) (v := .tuple #[sv, .int .i64 r]) rfl (by kernel_rfl) (by kernel_rfl) (by kernel_rfl) (fun _ _ _ h => h) (.inl ⟨by rfl, fun w2 hw2 => ?_⟩) ?_
  · clear hw2
    go_simp
  simp only [Act.put, List.setIfInBounds_toArray, List.set_cons_succ, List.set_cons_zero]
  refine anyM_take (i := 13) (oi := ⟨some 42, _, _, _, _, _⟩) (v := sv) rfl (by kernel_rfl) (by kernel_rfl) (by kernel_rfl) (fun _ _ _ h => h) (.inl ⟨by rfl, fun w2 hw2 => ?_⟩) ?_
  · clear hw2
    go_simp
  simp only [Act.put, List.setIfInBounds_toArray, List.set_cons_succ, List.set_cons_zero]
  refine anyM_take (i := 14) (oi := ⟨some 43, _, _, _, _, _⟩) (v := .int .i64 r) rfl (by kernel_rfl) (by kernel_rfl) (by kernel_rfl) (fun _ _ _ h => h) (.inl ⟨by rfl, fun w2 hw2 => ?_⟩) ?_
  · clear hw2
    go_simp
  simp only [Act.put, List.setIfInBounds_toArray, List.set_cons_succ, List.set_cons_zero]
  refine anyM_take (i := 15) (oi := ⟨some 6, _, _, _, _, _⟩) (v := sv) rfl (by kernel_rfl) (by kernel_rfl) (by kernel_rfl) (fun _ _ _ h => h) (.inl ⟨by rfl, fun w2 hw2 => ?_⟩) ?_
  · clear hw2
    go_simp
  simp only [Act.put, List.setIfInBounds_toArray, List.set_cons_succ, List.set_cons_zero]
  refine anyM_take (i := 16) (oi := ⟨some 7, _, _, _, _, _⟩) (v := .int .i64 r) rfl (by kernel_rfl) (by kernel_rfl) (by kernel_rfl) (fun _ _ _ h => h) (.inl ⟨by rfl, fun w2 hw2 => ?_⟩) ?_
  · clear hw2
    go_simp
  simp only [Act.put, List.setIfInBounds_toArray, List.set_cons_succ, List.set_cons_zero]
  refine anyM_done (by kernel_rfl) (fun w7 hw7 => ?_)
  have b7 := Lib.hid (show Below w6.heap.size w6 w7 from hw7)
  have B7 := Lib.hid (B6.out.trans (b7.out.mono B6.out.size))
  clear hw7 B6
  have GD7 := Lib.hid (GD.out w7 B7.out)
  rcases HPV.out with hr | ⟨rfl, k, iv, mk, s, hK, hI, hM, rfl, hs1, hs4, hsm, ⟨h0, h1⟩, hform, hn4, hpvs⟩
  · have hrb : (r != 0) = true := bne_iff_ne.2 hr
    clear PVH HPV hr CX CT VG VX WA b7
    go_wp2_with fail
    with_reducible refine GD7.out.mono ?_
    rintro e w8 ⟨rfl, hb8⟩
    have B8 := Lib.hid (B7.out.trans (hb8.mono B7.out.size))
    clear hb8
    have GD8 := Lib.hid (GD.out w8 B8.out)
    go_wp2_with fail
    with_reducible refine GD8.out.mono ?_
    rintro e w9 ⟨rfl, hb9⟩
    have B9 := Lib.hid (B8.out.trans (hb9.mono B8.out.size))
    clear hb9
    go_wp2_with fail
    go_ret
    exact ⟨rfl, B2.out.trans (B9.out.mono B2.out.size)⟩
  obtain ⟨g, z, c', rfl, hg, hc', hcm', ra⟩ := hpvs _ _ _ PVH.out
  have HG := Lib.hid (show wc.heap.size ≤ g from Nat.le_trans WA.out hg)
  have RA7 := Lib.hid (ra.later b7.out)
  have HK := Lib.hid hK
  have HI := Lib.hid hI
  have HM := Lib.hid hM
  have HF := Lib.hid hform
  clear PVH HPV hpvs ra hg WA b7 hK hI hM hform
  go_wp2_with fail
  with_reducible refine GD7.out.mono ?_
  rintro e w8 ⟨rfl, hb8⟩
  have B8 := Lib.hid (B7.out.trans (hb8.mono B7.out.size))
  have RA8 := Lib.hid (RA7.out.later hb8)
  clear hb8 B7 RA7 GD7 GD
  obtain ⟨d0, d1, d2, d3, d4, d5, d6, d7, d8⟩ := CX.out w8 B8.out
  clear d0 d1 d2 d3 d5 d6 d7 d8
  go_upto_region 7 with (fail)
  go_upto_region 8 with (fail)
  clear d4
  obtain ⟨W, V, hW, hWp, hWl, hWu, hWV⟩ : ∃ W V : Nat, wrap64 (2 ^ (8 * s - 1)) = (W : Int) ∧ (2 : Int) ^ (8 * s - 1) = (W : Int) ∧ 128 ≤ W ∧ W ≤ 2147483648 ∧ W = 2 * V := by
    obtain rfl | rfl | rfl | rfl : s = 1 ∨ s = 2 ∨ s = 3 ∨ s = 4 := by omega
    · exact ⟨128, 64, by unfold wrap64; decide, by decide, by decide, by decide, by decide⟩
    · exact ⟨32768, 16384, by unfold wrap64; decide, by decide, by decide, by decide, by decide⟩
    · exact ⟨8388608, 4194304, by unfold wrap64; decide, by decide, by decide, by decide, by decide⟩
    · exact ⟨2147483648, 1073741824, by unfold wrap64; decide, by decide, by decide, by decide, by decide⟩
  rw [hW]
  obtain ⟨U, hU⟩ : ∃ U : Nat, far % 18446744073709551616 = (U : Int) := ⟨(far % 18446744073709551616).toNat, by omega⟩
  obtain ⟨R, hRU, hRW⟩ : ∃ R : Nat, U % W = R ∧ R < W := ⟨_, rfl, Nat.mod_lt _ (by omega)⟩
  obtain ⟨X1, hX1⟩ : ∃ X1, (if N + (R : Int) - (V : Int) < 0 then 0 else N + (R : Int) - (V : Int)) = X1 := ⟨_, rfl⟩
  obtain ⟨EX, hEX⟩ : ∃ EX, (if (4611686018427387903 : Int) < X1 then 4611686018427387903 else X1) = EX := ⟨_, rfl⟩
  have hb : 0 ≤ EX ∧ EX ≤ 4611686018427387903 ∧ N - EX < (W : Int) ∧ EX - N ≤ (V : Int) := by
    rw [← hEX, ← hX1]
    split <;> split <;> omega
  obtain ⟨ex0, ex1, exn, exn2⟩ := hb
  have hU1 : IntKind.wrap .u64 far = (U : Int) := by rw [← hU]; simp only [IntKind.wrap, IntKind.bits, IntKind.signed]; simp
  have hW1 : IntKind.wrap .u64 (W : Int) = (W : Int) := by simp only [IntKind.wrap, IntKind.bits, IntKind.signed]; simp; omega
  have hR1 : ((U : Int)).tmod (W : Int) = (R : Int) := by rw [Int.tmod_eq_emod_of_nonneg (by omega), ← hRU]; simp
  have hR2 : ((U : Int)) % (W : Int) = (R : Int) := by rw [← hRU]; simp
  have hV1 : ((W : Int)).tdiv 2 = (V : Int) := by rw [Int.tdiv_eq_ediv_of_nonneg (by omega)]; omega
  have hw65 : IntKind.wrap .i64 (N + (R : Int)) = N + (R : Int) := by simp only [IntKind.wrap, IntKind.bits, IntKind.signed]; simp; omega
  have hw64 : IntKind.wrap .i64 (R : Int) = (R : Int) := by simp only [IntKind.wrap, IntKind.bits, IntKind.signed]; simp; omega
  have hw68 : IntKind.wrap .i64 (N + (R : Int) - (V : Int)) = N + (R : Int) - (V : Int) := by simp only [IntKind.wrap, IntKind.bits, IntKind.signed]; simp; omega
  have AR := Lib.hid (And.intro hU1 (And.intro hW1 (And.intro hR1 (And.intro hR2 (And.intro hV1 (And.intro hw65 (And.intro hw64 (And.intro hw68 (And.intro hX1 (And.intro hEX hU))))))))))
  have WP := Lib.hid hWp
  have hWn : ¬ W = 0 := by omega
  have hwV : IntKind.wrap .i64 (V : Int) = (V : Int) := by simp only [IntKind.wrap, IntKind.bits, IntKind.signed]; simp; omega
  have EB := Lib.hid (And.intro ex0 (And.intro ex1 (And.intro exn exn2)))
  have WV := Lib.hid (show (W : Int) / 2 = (V : Int) by omega)
  have RW := Lib.hid hRW
  clear hU1 hW1 hR1 hR2 hV1 hw65 hw64 hw68 hX1 hEX hU hWp ex0 ex1 exn exn2 hW hRU hRW hWV
  refine region_class1 15 (fun w' => Below w8.heap.size w8 w') mixedOrders (by kernel_rfl) (Below.refl _ _).drew rfl ?_
  refine wpQuiet_take (by rfl) (fun K hK => ⟨.pointer (some ⟨w.heap.size + 1, 5, none⟩), fun w2' hw2 => ?_, hK _ ?_⟩)
  · clear hw2; go_simp
  clear hK K
  simp only [Act.put, List.setIfInBounds_toArray, List.set_cons_succ, List.set_cons_zero]
  refine wpQuiet_take (by rfl) (fun K hK => ⟨.int .i64 N, fun w2' hw2 => ?_, hK _ ?_⟩)
  · have d5 := (CX.out w2' (B8.out.trans (hw2.mono B8.out.size))).2.2.2.2.2.1
    clear hw2
    go_simp
  clear hK K
  simp only [Act.put, List.setIfInBounds_toArray, List.set_cons_succ, List.set_cons_zero]
  refine wpQuiet_take (by rfl) (fun K hK => ⟨.pointer (some ⟨w.heap.size, 9, none⟩), fun w2' hw2 => ?_, hK _ ?_⟩)
  · clear hw2; go_simp
  clear hK K
  simp only [Act.put, List.setIfInBounds_toArray, List.set_cons_succ, List.set_cons_zero]
  refine wpQuiet_take (by rfl) (fun K hK => ⟨.int .i64 far, fun w2' hw2 => ?_, hK _ ?_⟩)
  · have d9 := (CT.out w2' (B8.out.trans (hw2.mono B8.out.size))).1
    clear hw2
    go_simp
  clear hK K
  simp only [Act.put, List.setIfInBounds_toArray, List.set_cons_succ, List.set_cons_zero]
  refine wpQuiet_take (by rfl) (fun K hK => ⟨.int .u64 (U : Int), fun w2' hw2 => ?_, hK _ ?_⟩)
  · obtain ⟨u1, u2, u3, u4, u5, u6, u7, u8, u9, u10, u11⟩ := AR.out
    clear hw2 u2 u3 u4 u5 u6 u7 u8 u9 u10
    go_simp
  clear hK K
  simp only [Act.put, List.setIfInBounds_toArray, List.set_cons_succ, List.set_cons_zero]
  refine wpQuiet_take (by rfl) (fun K hK => ⟨.int .i64 (W : Int), fun w2' hw2 => ?_, hK _ ?_⟩)
  · clear hw2; go_simp
  clear hK K
  simp only [Act.put, List.setIfInBounds_toArray, List.set_cons_succ, List.set_cons_zero]
  refine wpQuiet_take (by rfl) (fun K hK => ⟨.int .u64 (W : Int), fun w2' hw2 => ?_, hK _ ?_⟩)
  · obtain ⟨u1, u2, u3, u4, u5, u6, u7, u8, u9, u10, u11⟩ := AR.out
    clear hw2 u1 u3 u4 u5 u6 u7 u8 u9 u10 u11
    go_simp
  clear hK K
  simp only [Act.put, List.setIfInBounds_toArray, List.set_cons_succ, List.set_cons_zero]
  refine wpQuiet_take (by rfl) (fun K hK => ⟨.int .u64 (R : Int), fun w2' hw2 => ?_, hK _ ?_⟩)
  · obtain ⟨u1, u2, u3, u4, u5, u6, u7, u8, u9, u10, u11⟩ := AR.out
    clear hw2 u1 u2 u5 u6 u7 u8 u9 u10 u11
    go_simp
  clear hK K
  simp only [Act.put, List.setIfInBounds_toArray, List.set_cons_succ, List.set_cons_zero]
  refine wpQuiet_take (by rfl) (fun K hK => ⟨.int .i64 (R : Int), fun w2' hw2 => ?_, hK _ ?_⟩)
  · obtain ⟨u1, u2, u3, u4, u5, u6, u7, u8, u9, u10, u11⟩ := AR.out
    clear hw2 u1 u2 u3 u4 u5 u6 u8 u9 u10 u11
    go_simp
  clear hK K
  simp only [Act.put, List.setIfInBounds_toArray, List.set_cons_succ, List.set_cons_zero]
  refine wpQuiet_take (by rfl) (fun K hK => ⟨.int .i64 (N + (R : Int)), fun w2' hw2 => ?_, hK _ ?_⟩)
  · obtain ⟨u1, u2, u3, u4, u5, u6, u7, u8, u9, u10, u11⟩ := AR.out
    clear hw2 u1 u2 u3 u4 u5 u7 u8 u9 u10 u11
    go_simp
  clear hK K
  simp only [Act.put, List.setIfInBounds_toArray, List.set_cons_succ, List.set_cons_zero]
  refine wpQuiet_take (by rfl) (fun K hK => ⟨.int .i64 (W : Int), fun w2' hw2 => ?_, hK _ ?_⟩)
  · clear hw2; go_simp
  clear hK K
  simp only [Act.put, List.setIfInBounds_toArray, List.set_cons_succ, List.set_cons_zero]
  refine wpQuiet_take (by rfl) (fun K hK => ⟨.int .i64 (V : Int), fun w2' hw2 => ?_, hK _ ?_⟩)
  · obtain ⟨u1, u2, u3, u4, u5, u6, u7, u8, u9, u10, u11⟩ := AR.out
    clear hw2 u1 u2 u3 u4 u6 u7 u8 u9 u10 u11
    go_simp
  clear hK K
  simp only [Act.put, List.setIfInBounds_toArray, List.set_cons_succ, List.set_cons_zero]
  refine wpQuiet_take (by rfl) (fun K hK => ⟨.int .i64 (N + (R : Int) - (V : Int)), fun w2' hw2 => ?_, hK _ ?_⟩)
  · obtain ⟨u1, u2, u3, u4, u5, u6, u7, u8, u9, u10, u11⟩ := AR.out
    clear hw2 u1 u2 u3 u4 u5 u6 u7 u9 u10 u11
    go_simp
  clear hK K
  simp only [Act.put, List.setIfInBounds_toArray, List.set_cons_succ, List.set_cons_zero]
  refine wpQuiet_take (by rfl) (fun K hK => ⟨.int .i64 X1, fun w2' hw2 => ?_, hK _ ?_⟩)
  · obtain ⟨u1, u2, u3, u4, u5, u6, u7, u8, u9, u10, u11⟩ := AR.out
    clear hw2 u1 u2 u3 u4 u5 u6 u7 u8 u10 u11
    go_simp
  clear hK K
  simp only [Act.put, List.setIfInBounds_toArray, List.set_cons_succ, List.set_cons_zero]
  refine wpQuiet_take (by rfl) (fun K hK => ⟨.int .i64 EX, fun w2' hw2 => ?_, hK _ ?_⟩)
  · obtain ⟨u1, u2, u3, u4, u5, u6, u7, u8, u9, u10, u11⟩ := AR.out
    clear hw2 u1 u2 u3 u4 u5 u6 u7 u8 u9 u11
    go_simp
  clear hK K
  simp only [Act.put, List.setIfInBounds_toArray, List.set_cons_succ, List.set_cons_zero]
  refine wpQuiet_take0 ?_
  intro w9 hb9
  have B9 := Lib.hid (B8.out.trans (hb9.mono B8.out.size))
  have RA9 := Lib.hid (RA8.out.later hb9)
  clear hb9 B8 RA8 AR hwV hWn
  have OB := Lib.hid (fun (w' : World) (hR : RowAt w' g z (hm + (cm + 16)) (packF k iv mk gh xs N hm s cm)) => open_back k iv mk gh xs N hm s cm hs1 hs4 hsm hn4 HF.out EX h0 h1 EB.out.1 EB.out.2.1 (by rw [WP.out]; exact EB.out.2.2.1) (by rw [WP.out, WV.out]; exact EB.out.2.2.2) (by omega) (by omega) g z c' hc' hcm' w' hR)
  have OS := Lib.hid (fun (j : Nat) (hj : hm - s + 20 ≤ j) (hj2 : j < hm + (cm + 16)) (x : BitVec 8) (hx : x ≠ packF k iv mk gh xs N hm s cm j) (w' : World) (hR : RowAt w' g z (hm + (cm + 16)) (updb (packF k iv mk gh xs N hm s cm) j x)) => open_spoilt k iv mk gh xs N hm s cm hs1 hs4 hsm hn4 HF.out EX h0 h1 EB.out.1 EB.out.2.1 (by rw [WP.out]; exact EB.out.2.2.1) (by rw [WP.out, WV.out]; exact EB.out.2.2.2) (by omega) (by omega) g z c' hc' hcm' j hj hj2 x hx w' hR)
  have NG := Lib.hid (fun (hH : hOf (sched k) = ⟨0#64, 0#64⟩) (w' : World) => nought_any k hH w')
  unfold kysC at OB OS
  rw [← HK.out, ← HI.out, ← HM.out] at OB OS
  rw [← HK.out] at NG
  generalize packF k iv mk gh xs N hm s cm = PF at *
  generalize hOf (sched k) = HH at *
  clear HF HK HI HM WP WV EB
  obtain ⟨d0, d1, d2, d3, d4, d5, d6, d7, d8⟩ := CX.out w9 B9.out
  clear d3 d6 d7 d8
  have hwp : IntKind.wrap .i64 ((hm : Int) - (s : Int)) = (hm : Int) - (s : Int) := by simp only [IntKind.wrap, IntKind.bits, IntKind.signed]; simp; omega
  go_upto_region 10 with (fail)
  go_upto_region 11 with (first
    | (go_at_call 12; refine (to_any K I M _).mono ?_; rintro e w10 ⟨rfl, hb⟩; have b10 := Lib.hid hb; have RA10 := Lib.hid (RA9.out.later hb); clear hb)
    | (go_at_call 14; refine (OB.out _ RA10.out).mono ?_; rintro e w11 ⟨g1, c1, r1, rfl, i1, i2, hb⟩; have I1 := Lib.hid i1; have I2 := Lib.hid i2; have RA11 := Lib.hid (RA10.out.later hb); have B11 := Lib.hid (B9.out.trans ((b10.out.trans (hb.mono b10.out.size)).mono B9.out.size)); clear i1 i2 hb))
  clear d0 d1 d2 d4 d5 OB RA9 RA10 b10 B9 hwp
  have d5 := (CX.out w11 B11.out).2.2.2.2.2.1
  have v1 := VG.out _ c1 w11 I1.out
  have v2 := VX.out _ cm w11 I2.out
  have hlen : (hm : Int) + ((cm : Int) + 16) = (hm : Int) + (cm : Int) + 16 := by omega
  go_upto_region 13 with (fail)
  clear d5 v1 v2 hlen I1 I2 VG VX
  have hw15 : IntKind.wrap .i64 ((hm : Int) - (s : Int) + 20) = (hm : Int) - (s : Int) + 20 := by simp only [IntKind.wrap, IntKind.bits, IntKind.signed]; simp; omega
  have d11 := (CT.out w11 B11.out).2.2
  by_cases hge : (hm : Int) + ((cm : Int) + 16) ≤ (hm : Int) - (s : Int) + 20
  · go_wp2_with fail
    go_ret
    exact ⟨rfl, B2.out.trans (B11.out.mono B2.out.size)⟩
  by_cases hbt : n8 bt = 0
  · go_wp2_with fail
    go_ret
    exact ⟨rfl, B2.out.trans (B11.out.mono B2.out.size)⟩
  go_upto_region 16 with (fail)
  obtain ⟨DD, hDD⟩ : ∃ DD : Nat, cm + s - 4 = DD := ⟨_, rfl⟩
  have e137 : (hm : Int) + ((cm : Int) + 16) - ((hm : Int) - (s : Int) + 20) = (DD : Int) := by omega
  obtain ⟨A, hA⟩ : ∃ A : Nat, at_ % 18446744073709551616 = (A : Int) := ⟨(at_ % 18446744073709551616).toNat, by omega⟩
  have hD0 : ¬ DD = 0 := by omega
  have hD1 : DD ≤ 1000 := by omega
  have d10 := (CT.out w11 B11.out).2.1
  have hD2 : IntKind.wrap .u64 (DD : Int) = (DD : Int) := by simp only [IntKind.wrap, IntKind.bits, IntKind.signed]; simp; omega
  have hA1 : IntKind.wrap .u64 at_ = (A : Int) := by rw [← hA]; simp only [IntKind.wrap, IntKind.bits, IntKind.signed]; simp
  go_upto_region 17 with (fail)
  obtain ⟨J, eJ, hJ1, hJN⟩ : ∃ J : Nat, wrap64 ((hm : Int) - (s : Int) + 20 + wrap64 ((A : Int) % (DD : Int))) = (J : Int) ∧ hm - s + 20 ≤ J ∧ J < hm + (cm + 16) := index_of hm s cm A DD hsm hs4 (by omega) (by omega) hD0 hDD
  rw [eJ]
  clear eJ e137 hA hD0 hD1 d10 hD2 hA1 hDD hw15
  have hJL : (J : Int) < (hm : Int) + ((cm : Int) + 16) := by omega
  have XB := Lib.hid (xor_b (PF J) bt)
  refine region_class1 10 (fun w' => Below w11.heap.size w11 w') mixedOrders (by kernel_rfl) (Below.refl _ _).drew rfl ?_
  refine wpQuiet_take (by rfl) (fun K hK => ⟨.slice (some ⟨g, z, none⟩) (hm + (cm + 16)) c', fun w2' hw2 => ?_, hK _ ?_⟩)
  · clear hw2; go_simp
  clear hK K
  simp only [Act.put, List.setIfInBounds_toArray, List.set_cons_succ, List.set_cons_zero]
  refine wpQuiet_take (by rfl) (fun K hK => ⟨.int .i64 (J : Int), fun w2' hw2 => ?_, hK _ ?_⟩)
  · clear hw2; go_simp
  clear hK K
  simp only [Act.put, List.setIfInBounds_toArray, List.set_cons_succ, List.set_cons_zero]
  refine wpQuiet_take (by rfl) (fun K hK => ⟨.slice (some ⟨g, z, none⟩) (hm + (cm + 16)) c', fun w2' hw2 => ?_, hK _ ?_⟩)
  · clear hw2; go_simp
  clear hK K
  simp only [Act.put, List.setIfInBounds_toArray, List.set_cons_succ, List.set_cons_zero]
  refine wpQuiet_take (by rfl) (fun K hK => ⟨.int .i64 (J : Int), fun w2' hw2 => ?_, hK _ ?_⟩)
  · clear hw2; go_simp
  clear hK K
  simp only [Act.put, List.setIfInBounds_toArray, List.set_cons_succ, List.set_cons_zero]
  refine wpQuiet_take (by rfl) (fun K hK => ⟨.pointer (some ⟨g, z + J, none⟩), fun w2' hw2 => ?_, hK _ ?_⟩)
  · clear hw2; go_simp
  clear hK K
  simp only [Act.put, List.setIfInBounds_toArray, List.set_cons_succ, List.set_cons_zero]
  refine wpQuiet_take (by rfl) (fun K hK => ⟨.int .u8 (n8 (PF J)), fun w2' hw2 => ?_, hK _ ?_⟩)
  · have hc := (RA11.out.later hw2).at J hJN
    clear hw2
    go_simp
  clear hK K
  simp only [Act.put, List.setIfInBounds_toArray, List.set_cons_succ, List.set_cons_zero]
  refine wpQuiet_take (by rfl) (fun K hK => ⟨.pointer (some ⟨w.heap.size, 11, none⟩), fun w2' hw2 => ?_, hK _ ?_⟩)
  · clear hw2; go_simp
  clear hK K
  simp only [Act.put, List.setIfInBounds_toArray, List.set_cons_succ, List.set_cons_zero]
  refine wpQuiet_take (by rfl) (fun K hK => ⟨.int .u8 (n8 bt), fun w2' hw2 => ?_, hK _ ?_⟩)
  · have hc := (CT.out w2' (B11.out.trans (hw2.mono B11.out.size))).2.2
    clear hw2
    go_simp
  clear hK K
  simp only [Act.put, List.setIfInBounds_toArray, List.set_cons_succ, List.set_cons_zero]
  refine wpQuiet_take (by rfl) (fun K hK => ⟨.int .u8 (n8 (PF J ^^^ bt)), fun w2' hw2 => ?_, hK _ ?_⟩)
  · have hc := XB.out
    clear hw2
    go_simp
  clear hK K
  simp only [Act.put, List.setIfInBounds_toArray, List.set_cons_succ, List.set_cons_zero]
  refine wpQuiet_take (by rfl) (fun K hK => ⟨.pointer (some ⟨g, z + J, none⟩), fun w2' hw2 => ?_, hK _ ?_⟩)
  · clear hw2; go_simp
  clear hK K
  simp only [Act.put, List.setIfInBounds_toArray, List.set_cons_succ, List.set_cons_zero]
  refine wpQuiet_take0 ?_
  intro w12 hb12
  have RA12 := Lib.hid (RA11.out.later hb12)
  have B12 := Lib.hid (B11.out.trans (hb12.mono B11.out.size))
  clear hb12 RA11 B11 d11 XB
  have cz := RA12.out.at J hJN
  have fz := RA12.out.free J hJN
  go_upto_region 18 with (fail)
  clear cz fz
  have RD := Lib.hid (RA12.out.set J (PF J ^^^ bt))
  have BD := Lib.hid (B12.out.setCell HG.out (p := ⟨g, z + J, none⟩) (.int .u8 (n8 (PF J ^^^ bt))))
  clear RA12 B12
  generalize w12.setCell _ _ = wd at *
  have hxne : PF J ^^^ bt ≠ PF J := fun h => hbt (by
    have h2 : bt = 0#8 := by
      have h3 := congrArg (fun v => PF J ^^^ v) h
      simp only [← BitVec.xor_assoc, BitVec.xor_self, BitVec.zero_xor] at h3
      exact h3
    exact (n8_zero_iff bt).2 h2)
  obtain ⟨d0, d1, d2, d3, d4, d5, d6, d7, d8⟩ := CX.out wd BD.out
  clear d3 d4 d5 d6 d7 d8
  go_upto_region 19 with (first
    | (go_at_call 12; refine (to_any K I M _).mono ?_; rintro e w13 ⟨rfl, hb⟩; have b13 := Lib.hid hb; have RA13 := Lib.hid (RD.out.later hb); clear hb)
    | (go_at_call 14; refine (OS.out J hJ1 hJN _ hxne _ RA13.out).mono ?_; rintro e w14 ⟨y1, n1, y3, r, rfl, hr, hb⟩; have HR := Lib.hid hr; have B14 := Lib.hid (BD.out.trans ((b13.out.trans (hb.mono b13.out.size)).mono BD.out.size)); clear hr hb))
  clear d0 d1 d2 OS RA13 RD b13 BD
  have d0 := (CX.out w14 B14.out).1
  by_cases hHH : HH = ⟨0#64, 0#64⟩
  · by_cases hr4 : r = 4
    · subst hr4
      go_wp2_with fail
      go_ret
      exact ⟨rfl, B2.out.trans (B14.out.mono B2.out.size)⟩
    · have hrb : (r == 4) = false := beq_eq_false_iff_ne.2 hr4
      have NG2 := Lib.hid (NG.out hHH w14)
      go_wp2_with fail
      with_reducible refine NG2.out.mono ?_
      rintro e w15 ⟨rfl, hb15⟩
      have B15 := Lib.hid (B14.out.trans (hb15.mono B14.out.size))
      clear hb15
      go_wp2_with fail
      go_ret
      exact ⟨by simp, B2.out.trans (B15.out.mono B2.out.size)⟩
  · have hr4 := HR.out hHH
    subst hr4
    go_wp2_with fail
    go_ret
    exact ⟨rfl, B2.out.trans (B14.out.mono B2.out.size)⟩
end Go.Proofs.YtjbpjoondmcnlabDoor
namespace Go.Proofs.YtjbpjoondmcnlabDoor
open Go Go.RowKit Go.ChangeShapes Go.WideShapes
set_option linter.unusedSimpArgs false
set_option linter.unusedVariables false
set_option maxRecDepth 100000
theorem open_turn {H : Type} {enc : TypeId × Value → H} {w : World} {base : Nat} {v : Value} {d : DataW H} {p : List MemPlace} (hk : Value.okWide Tryd.prog w .any base 45 v)
    (h : DataW.Trod enc Tryd.prog w 0 (fun _ => true) true 45 v d p) :
    ∃ K I M Hd S N C E F far at_ bt, v = .agg (tnC K I M Hd S N C E F far at_ bt) ∧ 0 - 9223372036854775808 ≤ S ∧ S ≤ 9223372036854775807 := by
  obtain ⟨cs, rfl, hs⟩ := okWide_agg (by kernel_rfl) hk
  have hs12 : cs.size = 12 := hs.trans (by kernel_rfl)
  obtain ⟨fuel, hf⟩ := h
  obtain ⟨xs, n, _, hd, _, hl, hx⟩ := DataW.trod_struct Tryd.underlying45 hf
  match xs, hl with
  | [t0, t1, t2, t3], _ =>
    match cs, hs12 with
    | ⟨[v0, v1, v2, v3, v4, v5, v6, v7, v8, v9, v10, v11]⟩, _ =>
      have q0 : DataW.trod enc Tryd.prog w 0 (fun _ => true) true n 25 [v0, v1, v2, v3, v4, v5, v6, v7, v8] = some t0 := hx 0 _ rfl
      have q1 : DataW.trod enc Tryd.prog w 0 (fun _ => true) true n 3 [v9] = some t1 := hx 1 _ rfl
      have q2 : DataW.trod enc Tryd.prog w 0 (fun _ => true) true n 3 [v10] = some t2 := hx 2 _ rfl
      have q3 : DataW.trod enc Tryd.prog w 0 (fun _ => true) true n 5 [v11] = some t3 := hx 3 _ rfl
      obtain ⟨ys, n3, _, hd3, _, hl3, hx3⟩ := DataW.trod_struct Tryd.underlying25 q0
      match ys, hl3 with
      | [y0, y1, y2, y3, y4, y5, y6], _ =>
        have g0 : DataW.trod enc Tryd.prog w 0 (fun _ => true) true n3 23 [v0, v1, v2] = some y0 := hx3 0 _ rfl
        have g1 : DataW.trod enc Tryd.prog w 0 (fun _ => true) true n3 9 [v3] = some y1 := hx3 1 _ rfl
        have g2 : DataW.trod enc Tryd.prog w 0 (fun _ => true) true n3 3 [v4] = some y2 := hx3 2 _ rfl
        have g3 : DataW.trod enc Tryd.prog w 0 (fun _ => true) true n3 3 [v5] = some y3 := hx3 3 _ rfl
        have g4 : DataW.trod enc Tryd.prog w 0 (fun _ => true) true n3 9 [v6] = some y4 := hx3 4 _ rfl
        have g5 : DataW.trod enc Tryd.prog w 0 (fun _ => true) true n3 3 [v7] = some y5 := hx3 5 _ rfl
        have g6 : DataW.trod enc Tryd.prog w 0 (fun _ => true) true n3 4 [v8] = some y6 := hx3 6 _ rfl
        obtain ⟨xs2, n2, _, hd2, _, hl2, hx2⟩ := DataW.trod_struct Tryd.underlying23 g0
        match xs2, hl2 with
        | [z0, z1, z2], _ =>
          have k0 : DataW.trod enc Tryd.prog w 0 (fun _ => true) true n2 9 [v0] = some z0 := hx2 0 _ rfl
          have k1 : DataW.trod enc Tryd.prog w 0 (fun _ => true) true n2 9 [v1] = some z1 := hx2 1 _ rfl
          have k2 : DataW.trod enc Tryd.prog w 0 (fun _ => true) true n2 9 [v2] = some z2 := hx2 2 _ rfl
          have ui : Tryd.prog.underlying 3 = some (.int .i64) := by kernel_rfl
          have u8 : Tryd.prog.underlying 5 = some (.int .u8) := by kernel_rfl
          have us : Tryd.prog.underlying 9 = some .string := by kernel_rfl
          obtain ⟨K, e0, _, _⟩ := DataW.trod_string us k0
          obtain ⟨I, e1, _, _⟩ := DataW.trod_string us k1
          obtain ⟨M, e2, _, _⟩ := DataW.trod_string us k2
          obtain ⟨Hd, e3, _, _⟩ := DataW.trod_string us g1
          obtain ⟨S, e4, _, qS⟩ := DataW.trod_int ui g2
          obtain ⟨N, e5, _, _⟩ := DataW.trod_int ui g3
          obtain ⟨C, e6, _, _⟩ := DataW.trod_string us g4
          obtain ⟨E, e7, _, _⟩ := DataW.trod_int ui g5
          obtain ⟨F, e8, _⟩ := DataW.trod_bool (show Tryd.prog.underlying 4 = some .bool from by kernel_rfl) g6
          obtain ⟨far, e9, _, _⟩ := DataW.trod_int ui q1
          obtain ⟨at_, e10, _, _⟩ := DataW.trod_int ui q2
          obtain ⟨b, e11, _, qb⟩ := DataW.trod_int u8 q3
          simp only [List.cons.injEq, and_true] at e0 e1 e2 e3 e4 e5 e6 e7 e8 e9 e10 e11
          subst e0 e1 e2 e3 e4 e5 e6 e7 e8 e9 e10 e11
          have hb : -9223372036854775808 ≤ S ∧ S ≤ 9223372036854775807 := by simpa [Lit.wf, IntKind.min, IntKind.max, IntKind.signed, IntKind.bits] using qS
          refine ⟨K, I, M, Hd, S, N, C, E, F, far, at_, BitVec.ofInt 8 b, ?_, by omega, by omega⟩
          unfold tnC
          rw [← n8_of_wf b qb]
end Go.Proofs.YtjbpjoondmcnlabDoor
