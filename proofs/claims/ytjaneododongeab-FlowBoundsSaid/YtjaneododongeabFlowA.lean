/-
  A PURSE OF flow, AND THE DOCUMENT'S: each call by its contract, over the row of six numbers.
-/
import Derived.Test.YtjaneododongeabRowKit
import Derived.RegionTactic
import Derived.ChangeAlike
import Derived.BigQuiet
import Derived.Deep.RegionWith
import Derived.Deep.QuietTactic
namespace Go.Proofs.Ytjaneododongeab
open Go Go.RowKit Go.BigFrame
set_option linter.unusedSimpArgs false
set_option linter.unusedVariables false
/-- A purse's six numbers. -/
def purseC (W L C U M S : Int) : Array Value := #[.int .i64 W, .int .i64 L, .int .i64 C, .int .i64 U, .int .i64 M, .int .i64 S]
theorem purse_cells {w : World} {b : Nat} {T : TypeId} {W L C U M S : Int} (h : w.heap[b]? = some (.cells (purseC W L C U M S) T (0, 0))) :
    w.cell? ⟨b, 0, none⟩ = some (.int .i64 W) ∧ w.cell? ⟨b, 1, none⟩ = some (.int .i64 L) ∧ w.cell? ⟨b, 2, none⟩ = some (.int .i64 C) ∧ w.cell? ⟨b, 3, none⟩ = some (.int .i64 U) ∧ w.cell? ⟨b, 4, none⟩ = some (.int .i64 M) ∧ w.cell? ⟨b, 5, none⟩ = some (.int .i64 S) :=
  ⟨by rw [cell_of_row _ _ _ _ _ _ h]; rfl, by rw [cell_of_row _ _ _ _ _ _ h]; rfl, by rw [cell_of_row _ _ _ _ _ _ h]; rfl, by rw [cell_of_row _ _ _ _ _ _ h]; rfl, by rw [cell_of_row _ _ _ _ _ _ h]; rfl, by rw [cell_of_row _ _ _ _ _ _ h]; rfl⟩
theorem rowSet_drew {w w' : World} {B : Nat} {T : TypeId} {c : Array Value} (h : RowSet w B T c w') : RowSet w B T c w'.drew :=
  ⟨h.row, h.other, h.size, fun b hb => (h.below b hb).drew⟩
theorem rowSet_same {w : World} {B : Nat} {T : TypeId} {c : Array Value} (h : w.heap[B]? = some (.cells c T (0, 0))) : RowSet w B T c w :=
  ⟨h, fun _ _ => rfl, rfl, fun _ _ => Below.refl _ _⟩
theorem rowSet_from {w w1 w' : World} {B : Nat} {T : TypeId} {c : Array Value} (h0 : w1.heap = w.heap) (hb : ∀ b, Below b w w1) (h : RowSet w1 B T c w') : RowSet w B T c w' :=
  ⟨h.row, fun k hk => by rw [h.other k hk, h0], by rw [h.size, h0], fun b hk => (hb b).trans (h.below b hk)⟩
def PT : TypeId := 59
def RT : TypeId := 36
theorem ready_nil (w : World) : Calls Try.prog 33 #[.pointer none] w fun e w' => e = .returned (.bool false) ∧ w = w' := by
  go_enter Try.func33, Try.ntmps33
  go_wp2_with fail
  go_ret
  exact ⟨rfl, rfl⟩
theorem ready_ok (b : Nat) (W : Int) (hW : 0 < W) (w : World) (h : w.cell? ⟨b, 0, none⟩ = some (.int .i64 W)) : Calls Try.prog 33 #[.pointer (some ⟨b, 0, none⟩)] w fun e w' => e = .returned (.bool true) ∧ w = w' := by
  go_enter Try.func33, Try.ntmps33
  go_wp2_with fail
  go_ret
  exact ⟨rfl, rfl⟩
theorem ret_i64 {a b : Int} (h : a = b) : Ending.returned (.int .i64 a) = .returned (.int .i64 b) := by rw [h]
theorem raised_any (a c : Int) (w : World) : Calls Try.prog 34 #[.int .i64 a, .int .i64 c] w fun e w' => e = .returned (.int .i64 (max a (min c 1099511627776))) ∧ w = w' := by
  go_enter Try.func34, Try.ntmps34
  go_wp2_with fail
  all_goals (go_ret; exact ⟨ret_i64 (by omega), rfl⟩)
/-- Nil ones. -/
theorem allow_nil (n : Int) (w : World) : Calls Try.prog 9 #[.pointer none, .int .i64 n] w fun e w' => e = .returned (.tuple #[]) ∧ w = w' := by
  go_enter Try.func9, Try.ntmps9
  go_wp2_with (go_at_call 33; refine (ready_nil _).mono ?_; rintro e w' ⟨rfl, rfl⟩)
  go_end0
  exact ⟨rfl, rfl⟩
theorem grant_nil (w : World) : Calls Try.prog 10 #[.pointer none] w fun e w' => e = .returned (.tuple #[.int .i64 0, .bool false]) ∧ w = w' := by
  go_enter Try.func10, Try.ntmps10
  go_wp2_with (go_at_call 33; refine (ready_nil _).mono ?_; rintro e w' ⟨rfl, rfl⟩)
  go_ret2
  exact ⟨rfl, rfl⟩
theorem left_nil (w : World) : Calls Try.prog 12 #[.pointer none] w fun e w' => e = .returned (.int .i64 0) ∧ w = w' := by
  go_enter Try.func12, Try.ntmps12
  go_wp2_with fail
  go_ret
  exact ⟨rfl, rfl⟩
theorem take_nil (n : Int) (w : World) : Calls Try.prog 13 #[.pointer none, .int .i64 n] w fun e w' => e = .returned (.int .i64 1) ∧ w = w' := by
  go_enter Try.func13, Try.ntmps13
  go_wp2_with (go_at_call 33; refine (ready_nil _).mono ?_; rintro e w' ⟨rfl, rfl⟩)
  go_ret
  exact ⟨rfl, rfl⟩
theorem spend_nil (n : Int) (w : World) : Calls Try.prog 14 #[.pointer none, .int .i64 n] w fun e w' => e = .returned (.int .i64 1) ∧ w = w' := by
  go_enter Try.func14, Try.ntmps14
  go_wp2_with (go_at_call 33; refine (ready_nil _).mono ?_; rintro e w' ⟨rfl, rfl⟩)
  go_ret
  exact ⟨rfl, rfl⟩
/-- What the calls answer. -/
def takeE (L C n : Int) : Int := if n < 0 then 1 else if n > L - C then 11 else 0
def useE (C U n : Int) : Int := if n < 0 ∨ n > C - U then 1 else 0
def spendE (M S n : Int) : Int := if n < 0 then 1 else if n > M - S then 11 else 0
/-- The numbers of a purse of some calls. -/
structure Fits (W L C U M S : Int) : Prop where
  w0 : 0 < W
  w1 : W ≤ 65536
  u : 0 ≤ U
  c : U ≤ C
  l : C ≤ L
  l1 : L ≤ 1125899906842624
  s : 0 ≤ S
  m : S ≤ M
  m1 : M ≤ 1099511627776
theorem ready_same (b : Nat) (W : Int) (hW : 0 < W) (w : World) (h : w.cell? ⟨b, 0, none⟩ = some (.int .i64 W)) : Calls Try.prog 33 #[.pointer (some ⟨b, 0, none⟩)] w fun e w' => e = .returned (.bool true) ∧ w' = w := (ready_ok b W hW w h).mono (fun e w' h => ⟨h.1, h.2.symm⟩)
theorem rowSet_drewN {w w' : World} {B : Nat} {T : TypeId} {c : Array Value} (k : Nat) (h : RowSet w B T c w') : RowSet w B T c (w'.drewN k) :=
  ⟨h.row, h.other, h.size, fun b hb => below_drewN (h.below b hb) k⟩
theorem rowSet_via {w w' : World} {B : Nat} {T : TypeId} {c : Array Value} (k : Nat) (h : RowSet (w.drewN k) B T c w') : RowSet w B T c w' :=
  ⟨h.row, fun j hj => h.other j hj, h.size, fun b hb => (below_drewN (Below.refl b w) k).trans (h.below b hb)⟩
set_option maxHeartbeats 1000000 in
theorem left_any (b : Nat) (W L C U M S : Int) (F : Fits W L C U M S) (w : World) (h : w.heap[b]? = some (.cells (purseC W L C U M S) PT (0, 0))) :
    Calls Try.prog 12 #[.pointer (some ⟨b, 0, none⟩)] w fun e w' => e = .returned (.int .i64 (M - S)) ∧ ∃ k, w' = w.drewN k := by
  obtain ⟨c0, c1, c2, c3, c4, c5⟩ := purse_cells h
  obtain ⟨w0, w1, u0, uc, cl, l1, s0, sm, m1⟩ := id F
  go_enter Try.func12, Try.ntmps12
  go_wp2_with fail
  go_region
  go_wp2_with fail
  go_ret
  exact ⟨rfl, _, rfl⟩
set_option maxHeartbeats 1000000 in
theorem flow_take (b : Nat) (W L C U M S n : Int) (F : Fits W L C U M S) (w : World) (h : w.heap[b]? = some (.cells (purseC W L C U M S) PT (0, 0))) :
    Calls Try.prog 13 #[.pointer (some ⟨b, 0, none⟩), .int .i64 n] w fun e w' => e = .returned (.int .i64 (takeE L C n)) ∧ RowSet w b PT (purseC W L (if takeE L C n = 0 then C + n else C) U M S) w' := by
  obtain ⟨c0, c1, c2, c3, c4, c5⟩ := purse_cells h
  obtain ⟨w0, w1, u0, uc, cl, l1, s0, sm, m1⟩ := id F
  have f0 : w.frozen? ⟨b, 0, none⟩ = false := frozen_of_row _ _ _ _ _ h
  have f1 : w.frozen? ⟨b, 1, none⟩ = false := frozen_of_row _ _ _ _ _ h
  have f2 : w.frozen? ⟨b, 2, none⟩ = false := frozen_of_row _ _ _ _ _ h
  have f3 : w.frozen? ⟨b, 3, none⟩ = false := frozen_of_row _ _ _ _ _ h
  have f4 : w.frozen? ⟨b, 4, none⟩ = false := frozen_of_row _ _ _ _ _ h
  have f5 : w.frozen? ⟨b, 5, none⟩ = false := frozen_of_row _ _ _ _ _ h
  by_cases h0 : n < 0
  · have he : takeE L C n = 1 := if_pos h0
    rw [he, if_neg (by decide)]
    go_enter Try.func13, Try.ntmps13
    go_wp2_with (go_at_call 33; refine (ready_ok b W F.w0 _ c0).mono ?_; rintro e w' ⟨rfl, rfl⟩)
    go_ret
    first | exact ⟨rfl, rowSet_same h⟩ | exact ⟨rfl, rowSet_drew (rowSet_same h)⟩ | exact ⟨rfl, rowSet_drewN _ (rowSet_same h)⟩
  have hd : decide (n < 0) = false := decide_eq_false h0
  by_cases h1 : n > L - C
  · have he : takeE L C n = 11 := by unfold takeE; rw [if_neg h0, if_pos h1]
    rw [he, if_neg (by decide)]
    go_enter Try.func13, Try.ntmps13
    go_wp2_with (go_at_call 33; refine (ready_ok b W F.w0 _ c0).mono ?_; rintro e w' ⟨rfl, rfl⟩)
    go_region
    go_wp2_with fail
    go_ret
    first | exact ⟨rfl, rowSet_same h⟩ | exact ⟨rfl, rowSet_drew (rowSet_same h)⟩ | exact ⟨rfl, rowSet_drewN _ (rowSet_same h)⟩
  · have he : takeE L C n = 0 := by unfold takeE; rw [if_neg h0, if_neg h1]
    rw [he, if_pos rfl]
    go_enter Try.func13, Try.ntmps13
    go_wp2_with (go_at_call 33; refine (ready_ok b W F.w0 _ c0).mono ?_; rintro e w' ⟨rfl, rfl⟩)
    go_region
    go_wp2_with fail
    go_ret
    first | exact ⟨rfl, rowSet_cell w b 2 PT (purseC W L C U M S) (.int .i64 (C + n)) h⟩ | exact ⟨rfl, rowSet_drew (rowSet_cell w b 2 PT (purseC W L C U M S) (.int .i64 (C + n)) h)⟩ | exact ⟨rfl, rowSet_via _ (rowSet_cell (w.drewN _) b 2 PT (purseC W L C U M S) (.int .i64 (C + n)) h)⟩ | exact ⟨rfl, rowSet_drew (rowSet_via _ (rowSet_cell (w.drewN _) b 2 PT (purseC W L C U M S) (.int .i64 (C + n)) h))⟩ | exact ⟨rfl, rowSet_drewN _ (rowSet_cell w b 2 PT (purseC W L C U M S) (.int .i64 (C + n)) h)⟩ | exact ⟨rfl, rowSet_drewN _ (rowSet_via _ (rowSet_cell (w.drewN _) b 2 PT (purseC W L C U M S) (.int .i64 (C + n)) h))⟩
set_option maxHeartbeats 1000000 in
theorem flow_use (b : Nat) (W L C U M S n : Int) (F : Fits W L C U M S) (w : World) (h : w.heap[b]? = some (.cells (purseC W L C U M S) PT (0, 0))) :
    Calls Try.prog 17 #[.pointer (some ⟨b, 0, none⟩), .int .i64 n] w fun e w' => e = .returned (.int .i64 (useE C U n)) ∧ RowSet w b PT (purseC W L C (if useE C U n = 0 then U + n else U) M S) w' := by
  obtain ⟨c0, c1, c2, c3, c4, c5⟩ := purse_cells h
  obtain ⟨w0, w1, u0, uc, cl, l1, s0, sm, m1⟩ := id F
  have f0 : w.frozen? ⟨b, 0, none⟩ = false := frozen_of_row _ _ _ _ _ h
  have f1 : w.frozen? ⟨b, 1, none⟩ = false := frozen_of_row _ _ _ _ _ h
  have f2 : w.frozen? ⟨b, 2, none⟩ = false := frozen_of_row _ _ _ _ _ h
  have f3 : w.frozen? ⟨b, 3, none⟩ = false := frozen_of_row _ _ _ _ _ h
  have f4 : w.frozen? ⟨b, 4, none⟩ = false := frozen_of_row _ _ _ _ _ h
  have f5 : w.frozen? ⟨b, 5, none⟩ = false := frozen_of_row _ _ _ _ _ h
  by_cases h0 : n < 0
  · have he : useE C U n = 1 := if_pos (.inl h0)
    rw [he, if_neg (by decide)]
    go_enter Try.func17, Try.ntmps17
    go_wp2_with fail
    go_quiet ((go_at_call 33; exact Calls.quiet_of_same (ready_same b W F.w0 _ c0)))
    go_wp2_with fail
    go_ret
    first | exact ⟨rfl, rowSet_same h⟩ | exact ⟨rfl, rowSet_drew (rowSet_same h)⟩ | exact ⟨rfl, rowSet_drewN _ (rowSet_same h)⟩
  have hd : decide (n < 0) = false := decide_eq_false h0
  by_cases h1 : n > C - U
  · have he : useE C U n = 1 := if_pos (.inr h1)
    rw [he, if_neg (by decide)]
    go_enter Try.func17, Try.ntmps17
    go_wp2_with fail
    go_quiet ((go_at_call 33; exact Calls.quiet_of_same (ready_same b W F.w0 _ c0)))
    go_wp2_with fail
    go_ret
    first | exact ⟨rfl, rowSet_same h⟩ | exact ⟨rfl, rowSet_drew (rowSet_same h)⟩ | exact ⟨rfl, rowSet_drewN _ (rowSet_same h)⟩
  · have he : useE C U n = 0 := if_neg (by omega)
    rw [he, if_pos rfl]
    have hd2 : decide (n > C - U) = false := decide_eq_false h1
    go_enter Try.func17, Try.ntmps17
    go_wp2_with fail
    go_quiet ((go_at_call 33; exact Calls.quiet_of_same (ready_same b W F.w0 _ c0)))
    go_wp2_with fail
    go_ret
    first | exact ⟨rfl, rowSet_cell w b 3 PT (purseC W L C U M S) (.int .i64 (U + n)) h⟩ | exact ⟨rfl, rowSet_drew (rowSet_cell w b 3 PT (purseC W L C U M S) (.int .i64 (U + n)) h)⟩ | exact ⟨rfl, rowSet_via _ (rowSet_cell (w.drewN _) b 3 PT (purseC W L C U M S) (.int .i64 (U + n)) h)⟩ | exact ⟨rfl, rowSet_drew (rowSet_via _ (rowSet_cell (w.drewN _) b 3 PT (purseC W L C U M S) (.int .i64 (U + n)) h))⟩ | exact ⟨rfl, rowSet_drewN _ (rowSet_cell w b 3 PT (purseC W L C U M S) (.int .i64 (U + n)) h)⟩ | exact ⟨rfl, rowSet_drewN _ (rowSet_via _ (rowSet_cell (w.drewN _) b 3 PT (purseC W L C U M S) (.int .i64 (U + n)) h))⟩
set_option maxHeartbeats 1000000 in
theorem flow_grant (b : Nat) (W L C U M S : Int) (F : Fits W L C U M S) (w : World) (h : w.heap[b]? = some (.cells (purseC W L C U M S) PT (0, 0))) :
    Calls Try.prog 10 #[.pointer (some ⟨b, 0, none⟩)] w fun e w' => e = .returned (.tuple #[.int .i64 (if W / 2 ≤ L - U then L else U + W), .bool (if W / 2 ≤ L - U then false else true)]) ∧ RowSet w b PT (purseC W (if W / 2 ≤ L - U then L else U + W) C U M S) w' := by
  obtain ⟨c0, c1, c2, c3, c4, c5⟩ := purse_cells h
  obtain ⟨w0, w1, u0, uc, cl, l1, s0, sm, m1⟩ := id F
  have f0 : w.frozen? ⟨b, 0, none⟩ = false := frozen_of_row _ _ _ _ _ h
  have f1 : w.frozen? ⟨b, 1, none⟩ = false := frozen_of_row _ _ _ _ _ h
  have f2 : w.frozen? ⟨b, 2, none⟩ = false := frozen_of_row _ _ _ _ _ h
  have f3 : w.frozen? ⟨b, 3, none⟩ = false := frozen_of_row _ _ _ _ _ h
  have f4 : w.frozen? ⟨b, 4, none⟩ = false := frozen_of_row _ _ _ _ _ h
  have f5 : w.frozen? ⟨b, 5, none⟩ = false := frozen_of_row _ _ _ _ _ h
  by_cases h0 : W / 2 ≤ L - U
  · rw [if_pos h0, if_pos h0]
    go_enter Try.func10, Try.ntmps10
    go_wp2_with (go_at_call 33; refine (ready_ok b W F.w0 _ c0).mono ?_; rintro e w' ⟨rfl, rfl⟩)
    go_region
    go_wp2_with fail
    go_ret2
    first | exact ⟨rfl, rowSet_same h⟩ | exact ⟨rfl, rowSet_drew (rowSet_same h)⟩ | exact ⟨rfl, rowSet_drewN _ (rowSet_same h)⟩
  · rw [if_neg h0, if_neg h0]
    go_enter Try.func10, Try.ntmps10
    go_wp2_with (go_at_call 33; refine (ready_ok b W F.w0 _ c0).mono ?_; rintro e w' ⟨rfl, rfl⟩)
    go_region
    go_wp2_with fail
    go_region
    go_wp2_with fail
    go_ret2
    first | exact ⟨rfl, rowSet_cell w b 1 PT (purseC W L C U M S) (.int .i64 (U + W)) h⟩ | exact ⟨rfl, rowSet_drew (rowSet_cell w b 1 PT (purseC W L C U M S) (.int .i64 (U + W)) h)⟩ | exact ⟨rfl, rowSet_via _ (rowSet_cell (w.drewN _) b 1 PT (purseC W L C U M S) (.int .i64 (U + W)) h)⟩ | exact ⟨rfl, rowSet_drew (rowSet_via _ (rowSet_cell (w.drewN _) b 1 PT (purseC W L C U M S) (.int .i64 (U + W)) h))⟩ | exact ⟨rfl, rowSet_drewN _ (rowSet_cell w b 1 PT (purseC W L C U M S) (.int .i64 (U + W)) h)⟩ | exact ⟨rfl, rowSet_drewN _ (rowSet_via _ (rowSet_cell (w.drewN _) b 1 PT (purseC W L C U M S) (.int .i64 (U + W)) h))⟩
set_option maxHeartbeats 1000000 in
theorem flow_spend (b : Nat) (W L C U M S n : Int) (F : Fits W L C U M S) (w : World) (h : w.heap[b]? = some (.cells (purseC W L C U M S) PT (0, 0))) :
    Calls Try.prog 14 #[.pointer (some ⟨b, 0, none⟩), .int .i64 n] w fun e w' => e = .returned (.int .i64 (spendE M S n)) ∧ RowSet w b PT (purseC W L C U M (if spendE M S n = 0 then S + n else S)) w' := by
  obtain ⟨c0, c1, c2, c3, c4, c5⟩ := purse_cells h
  obtain ⟨w0, w1, u0, uc, cl, l1, s0, sm, m1⟩ := id F
  have f0 : w.frozen? ⟨b, 0, none⟩ = false := frozen_of_row _ _ _ _ _ h
  have f1 : w.frozen? ⟨b, 1, none⟩ = false := frozen_of_row _ _ _ _ _ h
  have f2 : w.frozen? ⟨b, 2, none⟩ = false := frozen_of_row _ _ _ _ _ h
  have f3 : w.frozen? ⟨b, 3, none⟩ = false := frozen_of_row _ _ _ _ _ h
  have f4 : w.frozen? ⟨b, 4, none⟩ = false := frozen_of_row _ _ _ _ _ h
  have f5 : w.frozen? ⟨b, 5, none⟩ = false := frozen_of_row _ _ _ _ _ h
  by_cases h0 : n < 0
  · have he : spendE M S n = 1 := if_pos h0
    rw [he, if_neg (by decide)]
    go_enter Try.func14, Try.ntmps14
    go_wp2_with (go_at_call 33; refine (ready_ok b W F.w0 _ c0).mono ?_; rintro e w' ⟨rfl, rfl⟩)
    go_ret
    first | exact ⟨rfl, rowSet_same h⟩ | exact ⟨rfl, rowSet_drew (rowSet_same h)⟩ | exact ⟨rfl, rowSet_drewN _ (rowSet_same h)⟩
  have hd : decide (n < 0) = false := decide_eq_false h0
  by_cases h1 : n > M - S
  · have he : spendE M S n = 11 := by unfold spendE; rw [if_neg h0, if_pos h1]
    rw [he, if_neg (by decide)]
    go_enter Try.func14, Try.ntmps14
    go_wp2_with (first | (go_at_call 33; refine (ready_ok b W F.w0 _ c0).mono ?_; rintro e w' ⟨rfl, rfl⟩) | (go_at_call 12; refine (left_any b W L C U M S F _ h).mono ?_; rintro e w' ⟨rfl, kq, rfl⟩))
    go_ret
    first | exact ⟨rfl, rowSet_same h⟩ | exact ⟨rfl, rowSet_drew (rowSet_same h)⟩ | exact ⟨rfl, rowSet_drewN _ (rowSet_same h)⟩
  · have he : spendE M S n = 0 := by unfold spendE; rw [if_neg h0, if_neg h1]
    rw [he, if_pos rfl]
    go_enter Try.func14, Try.ntmps14
    go_wp2_with (first | (go_at_call 33; refine (ready_ok b W F.w0 _ c0).mono ?_; rintro e w' ⟨rfl, rfl⟩) | (go_at_call 12; refine (left_any b W L C U M S F _ h).mono ?_; rintro e w' ⟨rfl, kq, rfl⟩))
    go_ret
    first | exact ⟨rfl, rowSet_cell w b 5 PT (purseC W L C U M S) (.int .i64 (S + n)) h⟩ | exact ⟨rfl, rowSet_drew (rowSet_cell w b 5 PT (purseC W L C U M S) (.int .i64 (S + n)) h)⟩ | exact ⟨rfl, rowSet_via _ (rowSet_cell (w.drewN _) b 5 PT (purseC W L C U M S) (.int .i64 (S + n)) h)⟩ | exact ⟨rfl, rowSet_drew (rowSet_via _ (rowSet_cell (w.drewN _) b 5 PT (purseC W L C U M S) (.int .i64 (S + n)) h))⟩ | exact ⟨rfl, rowSet_drewN _ (rowSet_cell w b 5 PT (purseC W L C U M S) (.int .i64 (S + n)) h)⟩ | exact ⟨rfl, rowSet_drewN _ (rowSet_via _ (rowSet_cell (w.drewN _) b 5 PT (purseC W L C U M S) (.int .i64 (S + n)) h))⟩
set_option maxHeartbeats 1000000 in
theorem ref_take (b : Nat) (W L C U M S n : Int) (F : Fits W L C U M S) (w : World) (h : w.heap[b]? = some (.cells (purseC W L C U M S) RT (0, 0))) :
    Calls Try.prog 16 #[.pointer (some ⟨b, 0, none⟩), .int .i64 n] w fun e w' => e = .returned (.int .i64 (takeE L C n)) ∧ RowSet w b RT (purseC W L (if takeE L C n = 0 then C + n else C) U M S) w' := by
  obtain ⟨c0, c1, c2, c3, c4, c5⟩ := purse_cells h
  obtain ⟨w0, w1, u0, uc, cl, l1, s0, sm, m1⟩ := id F
  have f0 : w.frozen? ⟨b, 0, none⟩ = false := frozen_of_row _ _ _ _ _ h
  have f1 : w.frozen? ⟨b, 1, none⟩ = false := frozen_of_row _ _ _ _ _ h
  have f2 : w.frozen? ⟨b, 2, none⟩ = false := frozen_of_row _ _ _ _ _ h
  have f3 : w.frozen? ⟨b, 3, none⟩ = false := frozen_of_row _ _ _ _ _ h
  have f4 : w.frozen? ⟨b, 4, none⟩ = false := frozen_of_row _ _ _ _ _ h
  have f5 : w.frozen? ⟨b, 5, none⟩ = false := frozen_of_row _ _ _ _ _ h
  by_cases h0 : n < 0
  · have he : takeE L C n = 1 := if_pos h0
    rw [he, if_neg (by decide)]
    go_enter Try.func16, Try.ntmps16
    go_wp2_with fail
    go_ret
    first | exact ⟨rfl, rowSet_same h⟩ | exact ⟨rfl, rowSet_drew (rowSet_same h)⟩ | exact ⟨rfl, rowSet_drewN _ (rowSet_same h)⟩
  have hd : decide (n < 0) = false := decide_eq_false h0
  by_cases h1 : n > L - C
  · have he : takeE L C n = 11 := by unfold takeE; rw [if_neg h0, if_pos h1]
    rw [he, if_neg (by decide)]
    go_enter Try.func16, Try.ntmps16
    go_wp2_with fail
    go_region
    go_wp2_with fail
    go_ret
    first | exact ⟨rfl, rowSet_same h⟩ | exact ⟨rfl, rowSet_drew (rowSet_same h)⟩ | exact ⟨rfl, rowSet_drewN _ (rowSet_same h)⟩
  · have he : takeE L C n = 0 := by unfold takeE; rw [if_neg h0, if_neg h1]
    rw [he, if_pos rfl]
    go_enter Try.func16, Try.ntmps16
    go_wp2_with fail
    go_region
    go_wp2_with fail
    go_ret
    first | exact ⟨rfl, rowSet_cell w b 2 RT (purseC W L C U M S) (.int .i64 (C + n)) h⟩ | exact ⟨rfl, rowSet_drew (rowSet_cell w b 2 RT (purseC W L C U M S) (.int .i64 (C + n)) h)⟩ | exact ⟨rfl, rowSet_via _ (rowSet_cell (w.drewN _) b 2 RT (purseC W L C U M S) (.int .i64 (C + n)) h)⟩ | exact ⟨rfl, rowSet_drew (rowSet_via _ (rowSet_cell (w.drewN _) b 2 RT (purseC W L C U M S) (.int .i64 (C + n)) h))⟩ | exact ⟨rfl, rowSet_drewN _ (rowSet_cell w b 2 RT (purseC W L C U M S) (.int .i64 (C + n)) h)⟩ | exact ⟨rfl, rowSet_drewN _ (rowSet_via _ (rowSet_cell (w.drewN _) b 2 RT (purseC W L C U M S) (.int .i64 (C + n)) h))⟩
set_option maxHeartbeats 1000000 in
theorem ref_use (b : Nat) (W L C U M S n : Int) (F : Fits W L C U M S) (w : World) (h : w.heap[b]? = some (.cells (purseC W L C U M S) RT (0, 0))) :
    Calls Try.prog 18 #[.pointer (some ⟨b, 0, none⟩), .int .i64 n] w fun e w' => e = .returned (.int .i64 (useE C U n)) ∧ RowSet w b RT (purseC W L C (if useE C U n = 0 then U + n else U) M S) w' := by
  obtain ⟨c0, c1, c2, c3, c4, c5⟩ := purse_cells h
  obtain ⟨w0, w1, u0, uc, cl, l1, s0, sm, m1⟩ := id F
  have f0 : w.frozen? ⟨b, 0, none⟩ = false := frozen_of_row _ _ _ _ _ h
  have f1 : w.frozen? ⟨b, 1, none⟩ = false := frozen_of_row _ _ _ _ _ h
  have f2 : w.frozen? ⟨b, 2, none⟩ = false := frozen_of_row _ _ _ _ _ h
  have f3 : w.frozen? ⟨b, 3, none⟩ = false := frozen_of_row _ _ _ _ _ h
  have f4 : w.frozen? ⟨b, 4, none⟩ = false := frozen_of_row _ _ _ _ _ h
  have f5 : w.frozen? ⟨b, 5, none⟩ = false := frozen_of_row _ _ _ _ _ h
  by_cases h0 : n < 0
  · have he : useE C U n = 1 := if_pos (.inl h0)
    rw [he, if_neg (by decide)]
    go_enter Try.func18, Try.ntmps18
    go_wp2_with fail
    go_quiet (fail)
    go_wp2_with fail
    go_ret
    first | exact ⟨rfl, rowSet_same h⟩ | exact ⟨rfl, rowSet_drew (rowSet_same h)⟩ | exact ⟨rfl, rowSet_drewN _ (rowSet_same h)⟩
  have hd : decide (n < 0) = false := decide_eq_false h0
  by_cases h1 : n > C - U
  · have he : useE C U n = 1 := if_pos (.inr h1)
    rw [he, if_neg (by decide)]
    go_enter Try.func18, Try.ntmps18
    go_wp2_with fail
    go_quiet (fail)
    go_wp2_with fail
    go_ret
    first | exact ⟨rfl, rowSet_same h⟩ | exact ⟨rfl, rowSet_drew (rowSet_same h)⟩ | exact ⟨rfl, rowSet_drewN _ (rowSet_same h)⟩
  · have he : useE C U n = 0 := if_neg (by omega)
    rw [he, if_pos rfl]
    have hd2 : decide (n > C - U) = false := decide_eq_false h1
    go_enter Try.func18, Try.ntmps18
    go_wp2_with fail
    go_quiet (fail)
    go_wp2_with fail
    go_ret
    first | exact ⟨rfl, rowSet_cell w b 3 RT (purseC W L C U M S) (.int .i64 (U + n)) h⟩ | exact ⟨rfl, rowSet_drew (rowSet_cell w b 3 RT (purseC W L C U M S) (.int .i64 (U + n)) h)⟩ | exact ⟨rfl, rowSet_via _ (rowSet_cell (w.drewN _) b 3 RT (purseC W L C U M S) (.int .i64 (U + n)) h)⟩ | exact ⟨rfl, rowSet_drew (rowSet_via _ (rowSet_cell (w.drewN _) b 3 RT (purseC W L C U M S) (.int .i64 (U + n)) h))⟩ | exact ⟨rfl, rowSet_drewN _ (rowSet_cell w b 3 RT (purseC W L C U M S) (.int .i64 (U + n)) h)⟩ | exact ⟨rfl, rowSet_drewN _ (rowSet_via _ (rowSet_cell (w.drewN _) b 3 RT (purseC W L C U M S) (.int .i64 (U + n)) h))⟩
set_option maxHeartbeats 1000000 in
theorem ref_grant (b : Nat) (W L C U M S : Int) (F : Fits W L C U M S) (w : World) (h : w.heap[b]? = some (.cells (purseC W L C U M S) RT (0, 0))) :
    Calls Try.prog 19 #[.pointer (some ⟨b, 0, none⟩)] w fun e w' => e = .returned (.tuple #[.int .i64 (if W / 2 ≤ L - U then L else U + W), .bool (if W / 2 ≤ L - U then false else true)]) ∧ RowSet w b RT (purseC W (if W / 2 ≤ L - U then L else U + W) C U M S) w' := by
  obtain ⟨c0, c1, c2, c3, c4, c5⟩ := purse_cells h
  obtain ⟨w0, w1, u0, uc, cl, l1, s0, sm, m1⟩ := id F
  have f0 : w.frozen? ⟨b, 0, none⟩ = false := frozen_of_row _ _ _ _ _ h
  have f1 : w.frozen? ⟨b, 1, none⟩ = false := frozen_of_row _ _ _ _ _ h
  have f2 : w.frozen? ⟨b, 2, none⟩ = false := frozen_of_row _ _ _ _ _ h
  have f3 : w.frozen? ⟨b, 3, none⟩ = false := frozen_of_row _ _ _ _ _ h
  have f4 : w.frozen? ⟨b, 4, none⟩ = false := frozen_of_row _ _ _ _ _ h
  have f5 : w.frozen? ⟨b, 5, none⟩ = false := frozen_of_row _ _ _ _ _ h
  by_cases h0 : W / 2 ≤ L - U
  · rw [if_pos h0, if_pos h0]
    go_enter Try.func19, Try.ntmps19
    go_wp2_with fail
    go_region
    go_wp2_with fail
    go_ret2
    first | exact ⟨rfl, rowSet_same h⟩ | exact ⟨rfl, rowSet_drew (rowSet_same h)⟩ | exact ⟨rfl, rowSet_drewN _ (rowSet_same h)⟩
  · rw [if_neg h0, if_neg h0]
    go_enter Try.func19, Try.ntmps19
    go_wp2_with fail
    go_region
    go_wp2_with fail
    go_region
    go_wp2_with fail
    go_ret2
    first | exact ⟨rfl, rowSet_cell w b 1 RT (purseC W L C U M S) (.int .i64 (U + W)) h⟩ | exact ⟨rfl, rowSet_drew (rowSet_cell w b 1 RT (purseC W L C U M S) (.int .i64 (U + W)) h)⟩ | exact ⟨rfl, rowSet_via _ (rowSet_cell (w.drewN _) b 1 RT (purseC W L C U M S) (.int .i64 (U + W)) h)⟩ | exact ⟨rfl, rowSet_drew (rowSet_via _ (rowSet_cell (w.drewN _) b 1 RT (purseC W L C U M S) (.int .i64 (U + W)) h))⟩ | exact ⟨rfl, rowSet_drewN _ (rowSet_cell w b 1 RT (purseC W L C U M S) (.int .i64 (U + W)) h)⟩ | exact ⟨rfl, rowSet_drewN _ (rowSet_via _ (rowSet_cell (w.drewN _) b 1 RT (purseC W L C U M S) (.int .i64 (U + W)) h))⟩
set_option maxHeartbeats 1000000 in
theorem ref_spend (b : Nat) (W L C U M S n : Int) (F : Fits W L C U M S) (w : World) (h : w.heap[b]? = some (.cells (purseC W L C U M S) RT (0, 0))) :
    Calls Try.prog 20 #[.pointer (some ⟨b, 0, none⟩), .int .i64 n] w fun e w' => e = .returned (.int .i64 (spendE M S n)) ∧ RowSet w b RT (purseC W L C U M (if spendE M S n = 0 then S + n else S)) w' := by
  obtain ⟨c0, c1, c2, c3, c4, c5⟩ := purse_cells h
  obtain ⟨w0, w1, u0, uc, cl, l1, s0, sm, m1⟩ := id F
  have f0 : w.frozen? ⟨b, 0, none⟩ = false := frozen_of_row _ _ _ _ _ h
  have f1 : w.frozen? ⟨b, 1, none⟩ = false := frozen_of_row _ _ _ _ _ h
  have f2 : w.frozen? ⟨b, 2, none⟩ = false := frozen_of_row _ _ _ _ _ h
  have f3 : w.frozen? ⟨b, 3, none⟩ = false := frozen_of_row _ _ _ _ _ h
  have f4 : w.frozen? ⟨b, 4, none⟩ = false := frozen_of_row _ _ _ _ _ h
  have f5 : w.frozen? ⟨b, 5, none⟩ = false := frozen_of_row _ _ _ _ _ h
  by_cases h0 : n < 0
  · have he : spendE M S n = 1 := if_pos h0
    rw [he, if_neg (by decide)]
    go_enter Try.func20, Try.ntmps20
    go_wp2_with fail
    go_ret
    first | exact ⟨rfl, rowSet_same h⟩ | exact ⟨rfl, rowSet_drew (rowSet_same h)⟩ | exact ⟨rfl, rowSet_drewN _ (rowSet_same h)⟩
  have hd : decide (n < 0) = false := decide_eq_false h0
  by_cases h1 : n > M - S
  · have he : spendE M S n = 11 := by unfold spendE; rw [if_neg h0, if_pos h1]
    rw [he, if_neg (by decide)]
    go_enter Try.func20, Try.ntmps20
    go_wp2_with fail
    go_region
    go_wp2_with fail
    go_ret
    first | exact ⟨rfl, rowSet_same h⟩ | exact ⟨rfl, rowSet_drew (rowSet_same h)⟩ | exact ⟨rfl, rowSet_drewN _ (rowSet_same h)⟩
  · have he : spendE M S n = 0 := by unfold spendE; rw [if_neg h0, if_neg h1]
    rw [he, if_pos rfl]
    go_enter Try.func20, Try.ntmps20
    go_wp2_with fail
    go_region
    go_wp2_with fail
    go_ret
    first | exact ⟨rfl, rowSet_cell w b 5 RT (purseC W L C U M S) (.int .i64 (S + n)) h⟩ | exact ⟨rfl, rowSet_drew (rowSet_cell w b 5 RT (purseC W L C U M S) (.int .i64 (S + n)) h)⟩ | exact ⟨rfl, rowSet_via _ (rowSet_cell (w.drewN _) b 5 RT (purseC W L C U M S) (.int .i64 (S + n)) h)⟩ | exact ⟨rfl, rowSet_drew (rowSet_via _ (rowSet_cell (w.drewN _) b 5 RT (purseC W L C U M S) (.int .i64 (S + n)) h))⟩ | exact ⟨rfl, rowSet_drewN _ (rowSet_cell w b 5 RT (purseC W L C U M S) (.int .i64 (S + n)) h)⟩ | exact ⟨rfl, rowSet_drewN _ (rowSet_via _ (rowSet_cell (w.drewN _) b 5 RT (purseC W L C U M S) (.int .i64 (S + n)) h))⟩
set_option maxHeartbeats 1000000 in
theorem flow_allow (b : Nat) (W L C U M S n : Int) (F : Fits W L C U M S) (w : World) (h : w.heap[b]? = some (.cells (purseC W L C U M S) PT (0, 0))) :
    Calls Try.prog 9 #[.pointer (some ⟨b, 0, none⟩), .int .i64 n] w fun e w' => e = .returned (.tuple #[]) ∧ RowSet w b PT (purseC W L C U (max M (min n 1099511627776)) S) w' := by
  obtain ⟨c0, c1, c2, c3, c4, c5⟩ := purse_cells h
  obtain ⟨w0, w1, u0, uc, cl, l1, s0, sm, m1⟩ := id F
  have f0 : w.frozen? ⟨b, 0, none⟩ = false := frozen_of_row _ _ _ _ _ h
  have f1 : w.frozen? ⟨b, 1, none⟩ = false := frozen_of_row _ _ _ _ _ h
  have f2 : w.frozen? ⟨b, 2, none⟩ = false := frozen_of_row _ _ _ _ _ h
  have f3 : w.frozen? ⟨b, 3, none⟩ = false := frozen_of_row _ _ _ _ _ h
  have f4 : w.frozen? ⟨b, 4, none⟩ = false := frozen_of_row _ _ _ _ _ h
  have f5 : w.frozen? ⟨b, 5, none⟩ = false := frozen_of_row _ _ _ _ _ h
  go_enter Try.func9, Try.ntmps9
  go_wp2_with (first | (go_at_call 33; refine (ready_ok b W F.w0 _ c0).mono ?_; rintro e w' ⟨rfl, rfl⟩) | (go_at_call 34; refine (raised_any _ _ _).mono ?_; rintro e w' ⟨rfl, rfl⟩))
  go_end0
  first | exact ⟨rfl, rowSet_cell w b 4 PT (purseC W L C U M S) (.int .i64 (max M (min n 1099511627776))) h⟩ | exact ⟨rfl, rowSet_drew (rowSet_cell w b 4 PT (purseC W L C U M S) (.int .i64 (max M (min n 1099511627776))) h)⟩ | exact ⟨rfl, rowSet_via _ (rowSet_cell (w.drewN _) b 4 PT (purseC W L C U M S) (.int .i64 (max M (min n 1099511627776))) h)⟩ | exact ⟨rfl, rowSet_drew (rowSet_via _ (rowSet_cell (w.drewN _) b 4 PT (purseC W L C U M S) (.int .i64 (max M (min n 1099511627776))) h))⟩ | exact ⟨rfl, rowSet_drewN _ (rowSet_cell w b 4 PT (purseC W L C U M S) (.int .i64 (max M (min n 1099511627776))) h)⟩ | exact ⟨rfl, rowSet_drewN _ (rowSet_via _ (rowSet_cell (w.drewN _) b 4 PT (purseC W L C U M S) (.int .i64 (max M (min n 1099511627776))) h))⟩
end Go.Proofs.Ytjaneododongeab
