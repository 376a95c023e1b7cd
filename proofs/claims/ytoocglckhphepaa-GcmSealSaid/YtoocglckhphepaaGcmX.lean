/-
  A LETTER's BYTES: cut, told as texts.
-/
import Derived.Test.YtoocglckhphepaaGcmV
import Derived.Test.YtoocglckhphepaaLetter
namespace Go.Proofs.Ytoocglckhphepaa
open Go Go.RowKit Go.BigFrame
set_option maxRecDepth 100000
set_option linter.unusedSimpArgs false
set_option maxHeartbeats 1000000 in
theorem cut_any (a : Option Addr) (n c : Nat) (_w : World) (hc : n ≤ c) (hm : c ≤ maxLen) : ∃ k, k ≤ 120 ∧ k ≤ n ∧ ∀ w' : World, Calls Try.prog 12 #[.slice a n c] w' fun e w'' => e = .returned (.slice a k c) ∧ w' = w'' := by
  have hm' : c ≤ 9223372036854775807 := by unfold maxLen at hm; omega
  by_cases hl : n ≤ 120
  · refine ⟨n, hl, Nat.le_refl _, fun w' => ?_⟩
    have hl5 : ¬ (120 : Int) < (n : Int) := by omega
    have hl6 : (n : Int) ≤ 120 := by omega
    have su := fun w' => run_upto_b w' a n n c (Nat.le_refl _) hc
    clear hm
    go_enter Try.func12, Try.ntmps12
    go_wp2_with fail
    go_ret
    exact ⟨rfl, rfl⟩
  · refine ⟨120, by omega, by omega, fun w' => ?_⟩
    have hl5 : (120 : Int) < (n : Int) := by omega
    have hl6 : ¬ (n : Int) ≤ 120 := by omega
    have su : ∀ w', (Instr.sliceAt 25 (.slice a n c) none (some (.int .i64 120)) none).run Try.prog w' = .ok (.slice a 120 c) w' := fun w' => run_upto_b w' a 120 n c (by omega) hc
    clear hm
    go_enter Try.func12, Try.ntmps12
    go_wp2_with fail
    go_ret
    exact ⟨rfl, rfl⟩
theorem in_less {w : World} {a : Option Addr} {n k : Nat} {f : Nat → BitVec 8} (h : BytesIn w a n f) (hk : k ≤ n) : BytesIn w a k f :=
  ⟨Nat.le_trans hk h.1, by
    rcases h.2 with h0 | ⟨b, o, e, hl, hc⟩
    · exact .inl (by omega)
    · exact .inr ⟨b, o, e, hl, fun i hi => hc i (by omega)⟩⟩
theorem conv_in (f : Nat → BitVec 8) (a : Option Addr) (m c : Nat) (w : World) (h : BytesIn w a m f) :
    (convert 25 9 (.slice a m c)).run Try.prog w = .ok (.string (strOf f m)) w := by
  rcases h.2 with rfl | ⟨b, o, rfl, _, hc⟩
  · have h1 : Try.prog.underlying 25 = some (.slice 5) := by kernel_rfl
    have h2 : Try.prog.underlying 9 = some .string := by kernel_rfl
    have h3 : Try.prog.underlying 5 = some (.int .u8) := by kernel_rfl
    cases a with
    | none =>
      simp [convert, run_underlying h1, run_underlying h2, run_underlying h3, Sem.run_bind]
      rfl
    | some x =>
      have h := run_convert_bytes_back (P := Try.prog) w 25 9 5 x c [] (by kernel_rfl) (by kernel_rfl) (by kernel_rfl) (fun j hj => by simp at hj)
      exact h
  · exact conv_str f b o m c w hc
theorem none_any (w : World) : Calls Try.prog 10 #[] w fun e w' => e = .returned (.pointer none) ∧ w = w' := by
  go_enter Try.func10, Try.ntmps10
  go_wp2_with fail
  go_ret
  exact ⟨rfl, rfl⟩
end Go.Proofs.Ytoocglckhphepaa
