/-
  name: the same lists of texts.
-/
import Derived.Test.YtddpfbeclmgndaaDoorNmY
namespace Go.Proofs.YtddpfbeclmgndaaDoor
open Go Go.RowKit Go.BigFrame
set_option linter.unusedSimpArgs false
set_option linter.unusedVariables false
set_option maxHeartbeats 4000000 in
set_option maxRecDepth 100000 in
theorem texts_any {B C : Nat} {v u : Value} {ps : List (List (BitVec 8))} {w : World} (h : OwnT B v ps w) (k : RowS C u ps w) (hn : ps.length ≤ 100000) : Calls Tryd.prog 17 #[v, u] w fun e w' => e = .returned (.bool true) ∧ Below w.heap.size w w' := by
  obtain ⟨oa, oc, hv⟩ := h.shape
  subst hv
  obtain ⟨ad, hu, hrow⟩ := k
  have k2 : RowS C u ps w := ⟨ad, hu, hrow⟩
  subst hu
  have H := Lib.hid h
  have K := Lib.hid k2
  clear h k2 hrow
  obtain ⟨N, hN⟩ : ∃ N, ps.length = N := ⟨_, rfl⟩
  have HN := Lib.hid hN
  rw [hN] at hn H K ⊢
  clear hN
  have hne : ((N : Int) == (N : Int)) = true := beq_self_eq_true _
  go_enter Tryd.func17, Tryd.ntmps17
  go_wp2_with fail
  go_loopw [5] (fun s5 wr => ∃ i : Nat, i ≤ N ∧ s5 = .int .i64 (i : Int) ∧ Hid (Below w.heap.size w wr)) (fun s5 _ => N - (intOf s5).toNat)
  case atStart => exact ⟨0, by omega, rfl, Below.refl _ _⟩
  case round =>
    obtain ⟨i, hi, rfl, HB⟩ := hrel
    by_cases hin : i < N
    · have hin' : (i : Int) < (N : Int) := by omega
      have hil : i < ps.length := by rw [HN.out]; exact hin
      obtain ⟨g, cp, hv, hnc, hcm, hc, -, hg⟩ := H.out.at i hil
      obtain ⟨a, hu, hc2, -, ha⟩ := K.out.at i hil
      have hE := sL_beq ps[i] ps[i]
      rw [decide_eq_true rfl] at hE
      generalize sL ps[i] = D at *
      rw [HN.out] at hv hu hnc
      injection hv with hv hv2 hv3
      injection hu with hu hu2 hu3
      subst hv hv3 hu
      have d1 : wr.drew.cell? ⟨g, i, none⟩ = some (.string D) := (HB.out.cell (p := ⟨g, i, none⟩) hg).trans hc
      have d2 : wr.drew.cell? ⟨a, i, none⟩ = some (.string D) := (HB.out.cell (p := ⟨a, i, none⟩) ha).trans hc2
      clear hc hc2 hv2 hu2 hu3 hil
      go_upto_region 6 with fail
      go_region
      go_wp2_with fail
      go_roundw
      case rel => exact ⟨i + 1, by omega, by rw [Int.natCast_add]; rfl, HB.out.drew⟩
      case measure => simp only [intOf]; omega
    · have hin' : ¬ (i : Int) < (N : Int) := by omega
      go_wp2_with fail
      go_ret
      exact ⟨rfl, HB.out⟩
end Go.Proofs.YtddpfbeclmgndaaDoor
