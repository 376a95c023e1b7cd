/-
  THE CALLS OF PACKAGE packet: whether any header has the parts of its kind, and no others.
-/
import Derived.Test.YtcgbhcmgddgheaaDoorPackD
import Derived.Deep.DeepCutAuto
namespace Go.Proofs.YtcgbhcmgddgheaaDoor
open Go Go.RowKit Go.BigFrame
set_option linter.unusedSimpArgs false
set_option linter.unusedVariables false
theorem isEmpty_of {S : ByteArray} {n : Nat} (h : S.size = n) : S.toList.isEmpty = decide (n = 0) := by
  subst h
  rw [ByteArray.toList_eq]
  have e : S.size = S.data.toList.length := by simp
  rw [e]
  cases S.data.toList <;> simp
def inF (k v l N z : Int) (ns nt n : Nat) (ph : Bool) : Prop :=
  (k = 0 ∧ (v ≠ 0 ∧ ph = false ∧ n = 0) ∧ z ≠ 0) ∨ ((k = 1 ∨ k = 2) ∧ (v ≠ 0 ∧ ph = false ∧ n = 0) ∧ z ≠ 0 ∧ nt = 0) ∨ (k = 3 ∧ (v ≠ 0 ∧ ph = false ∧ n = 0) ∧ (l = 0 ∧ N = 0 ∧ z = 0))
  ∨ (k = 4 ∧ z ≠ 0 ∧ v = 0 ∧ l = 0 ∧ ns = 0 ∧ nt = 0 ∧ n = 0) ∨ (k = 5 ∧ (l = 0 ∧ N = 0 ∧ z = 0) ∧ v = 0 ∧ ph = false ∧ nt = 0 ∧ n ≠ 0)
instance (k v l N z : Int) (ns nt n : Nat) (ph : Bool) : Decidable (inF k v l N z ns nt n ph) := by unfold inF; infer_instance
set_option maxHeartbeats 8000000 in
set_option maxRecDepth 100000 in
theorem inForm_any (k v l N z : Int) (D S T : ByteArray) (ns nt n : Nat) (hS : S.size = ns) (hT : T.size = nt) (ph : Bool) (a : Option Addr) (c : Nat) (w : World) :
    Calls Tryd.prog 59 #[.agg (hdC k v D S T l N z ph (.slice a n c))] w fun e w' => e = .returned (.bool (decide (inF k v l N z ns nt n ph))) ∧ Below w.heap.size w w' := by
  have eS := isEmpty_of hS
  have eT := isEmpty_of hT
  obtain ⟨B, hB⟩ : ∃ B, decide (inF k v l N z ns nt n ph) = B := ⟨_, rfl⟩
  have RN := Lib.hid (fun (h : ¬ inF k v l N z ns nt n ph) => (ret_no h).trans (by rw [hB]))
  have RY := Lib.hid (fun (h : inF k v l N z ns nt n ph) => (ret_yes h).trans (by rw [hB]))
  rw [hB]
  clear hB
  unfold hdC
  go_enter Tryd.func59, Tryd.ntmps59
  have row := heap_alloc_last w (.cells #[.int .i64 k, .int .i64 v, .string D, .string S, .string T, .int .i64 l, .int .i64 N, .int .i64 z, .bool ph, .slice a n c] 66)
  have bel := (Below.refl w.heap.size w).alloc (Nat.le_refl _) (.cells #[.int .i64 k, .int .i64 v, .string D, .string S, .string T, .int .i64 l, .int .i64 N, .int .i64 z, .bool ph, .slice a n c] 66)
  go_upto_region 1 with (fail)
  generalize w.alloc _ = wa at *
  obtain ⟨c0, c1, c2, c3, c4, c5, c6, c7, c8, c9⟩ := cells10 row
  have BEL := Lib.hid bel
  clear row bel hS hT
  generalize Value.agg #[.int .i64 k, .int .i64 v, .string D, .string S, .string T, .int .i64 l, .int .i64 N, .int .i64 z, .bool ph, .slice a n c] = PV
  go_cut [3] (fun v3 wx => v3 = .bool (decide (l = 0 ∧ N = 0 ∧ z = 0)) ∧ wx = wa)
  case first =>
    by_cases hl : l = 0
    rotate_left
    · go_wp2_with fail
      go_meet
      exact ⟨by first | (rw [decide_eq_false (by omega)]; done) | (rw [decide_eq_false (by omega)]; congr 1; simp_all), rfl⟩
    by_cases hN : N = 0
    rotate_left
    · go_wp2_with fail
      go_meet
      exact ⟨by first | (rw [decide_eq_false (by omega)]; done) | (rw [decide_eq_false (by omega)]; congr 1; simp_all), rfl⟩
    by_cases hz : z = 0
    rotate_left
    · go_wp2_with fail
      go_meet
      exact ⟨by first | (rw [decide_eq_false (by omega)]; done) | (rw [decide_eq_false (by omega)]; congr 1; simp_all), rfl⟩
    go_wp2_with fail
    go_meet
    exact ⟨by first | (rw [decide_eq_true (by omega)]; done) | (rw [decide_eq_true (by omega)]; congr 1; simp_all), rfl⟩
  obtain ⟨rfl, rfl⟩ := hcut
  obtain ⟨U, hU⟩ : ∃ U, decide (l = 0 ∧ N = 0 ∧ z = 0) = U := ⟨_, rfl⟩
  rw [hU]
  have HU := Lib.hid hU
  clear hU
  go_upto_region 2 with (fail)
  go_cut [4] (fun v4 wx => v4 = .bool (decide (v ≠ 0 ∧ ph = false ∧ n = 0)) ∧ wx = wc)
  case first =>
    by_cases hv : v ≠ 0
    rotate_left
    · have hv2 : v = 0 := by omega
      go_wp2_with fail
      go_meet
      exact ⟨by first | (rw [decide_eq_false (by simp_all)]; done) | (rw [decide_eq_false (by simp_all)]; congr 1; simp_all), rfl⟩
    by_cases hp : ph = false
    rotate_left
    · have hp2 : ph = true := by simpa using hp
      go_wp2_with fail
      go_meet
      exact ⟨by first | (rw [decide_eq_false (by simp_all)]; done) | (rw [decide_eq_false (by simp_all)]; congr 1; simp_all), rfl⟩
    by_cases hn : n = 0
    rotate_left
    · go_wp2_with fail
      go_meet
      exact ⟨by first | (rw [decide_eq_false (by simp_all)]; done) | (rw [decide_eq_false (by simp_all)]; congr 1; simp_all), rfl⟩
    go_wp2_with fail
    go_meet
    exact ⟨by first | (rw [decide_eq_true (by simp_all)]; done) | (rw [decide_eq_true (by simp_all)]; congr 1; simp_all), rfl⟩
  obtain ⟨rfl, rfl⟩ := hcut
  obtain ⟨V, hV⟩ : ∃ V, decide (v ≠ 0 ∧ ph = false ∧ n = 0) = V := ⟨_, rfl⟩
  rw [hV]
  have HV := Lib.hid hV
  clear hV
  by_cases hk0 : k = 0
  · cases V with
    | false =>
      have hVf : ¬ (v ≠ 0 ∧ ph = false ∧ n = 0) := of_decide_eq_false HV.out
      have HNO : Hid (¬ inF k v l N z ns nt n ph) := Lib.hid (by
        unfold inF
        rintro (⟨h1, h2, h3⟩ | ⟨h1, h2, h3, h4⟩ | ⟨h1, h2, h3⟩ | ⟨h1, h2, h3, h4, h5, h6, h7⟩ | ⟨h1, h2, h3, h4, h5, h6⟩) <;> first | omega | exact hVf h2 | exact hUf h3 | exact hUf h2 | exact hp h4)
      go_wp2_with fail
      go_ret
      first
        | exact ⟨RN.out HNO.out, BEL.out⟩
        | (refine ⟨Eq.trans ?_ (RN.out HNO.out), BEL.out⟩; show Ending.returned (Value.bool _) = Ending.returned (Value.bool _); congr 2; simp_all)
    | true =>
      have hVt : v ≠ 0 ∧ ph = false ∧ n = 0 := of_decide_eq_true HV.out
      by_cases hz : z ≠ 0
      rotate_left
      · have hz2 : z = 0 := by omega
        have HNO : Hid (¬ inF k v l N z ns nt n ph) := Lib.hid (by
          unfold inF
          rintro (⟨h1, h2, h3⟩ | ⟨h1, h2, h3, h4⟩ | ⟨h1, h2, h3⟩ | ⟨h1, h2, h3, h4, h5, h6, h7⟩ | ⟨h1, h2, h3, h4, h5, h6⟩) <;> first | omega | exact hVf h2 | exact hUf h3 | exact hUf h2 | exact hp h4)
        go_wp2_with fail
        go_ret
        first
          | exact ⟨RN.out HNO.out, BEL.out⟩
          | (refine ⟨Eq.trans ?_ (RN.out HNO.out), BEL.out⟩; show Ending.returned (Value.bool _) = Ending.returned (Value.bool _); congr 2; simp_all)
      have HYES : Hid (inF k v l N z ns nt n ph) := Lib.hid (.inl ⟨hk0, hVt, hz⟩)
      go_wp2_with fail
      go_ret
      first
        | exact ⟨RY.out HYES.out, BEL.out⟩
        | (refine ⟨Eq.trans ?_ (RY.out HYES.out), BEL.out⟩; show Ending.returned (Value.bool _) = Ending.returned (Value.bool _); congr 2; simp_all)
  by_cases hk1 : k = 1
  · cases V with
    | false =>
      have hVf : ¬ (v ≠ 0 ∧ ph = false ∧ n = 0) := of_decide_eq_false HV.out
      have HNO : Hid (¬ inF k v l N z ns nt n ph) := Lib.hid (by
        unfold inF
        rintro (⟨h1, h2, h3⟩ | ⟨h1, h2, h3, h4⟩ | ⟨h1, h2, h3⟩ | ⟨h1, h2, h3, h4, h5, h6, h7⟩ | ⟨h1, h2, h3, h4, h5, h6⟩) <;> first | omega | exact hVf h2 | exact hUf h3 | exact hUf h2 | exact hp h4)
      go_wp2_with fail
      go_ret
      first
        | exact ⟨RN.out HNO.out, BEL.out⟩
        | (refine ⟨Eq.trans ?_ (RN.out HNO.out), BEL.out⟩; show Ending.returned (Value.bool _) = Ending.returned (Value.bool _); congr 2; simp_all)
    | true =>
      have hVt : v ≠ 0 ∧ ph = false ∧ n = 0 := of_decide_eq_true HV.out
      by_cases hz : z ≠ 0
      rotate_left
      · have hz2 : z = 0 := by omega
        have HNO : Hid (¬ inF k v l N z ns nt n ph) := Lib.hid (by
          unfold inF
          rintro (⟨h1, h2, h3⟩ | ⟨h1, h2, h3, h4⟩ | ⟨h1, h2, h3⟩ | ⟨h1, h2, h3, h4, h5, h6, h7⟩ | ⟨h1, h2, h3, h4, h5, h6⟩) <;> first | omega | exact hVf h2 | exact hUf h3 | exact hUf h2 | exact hp h4)
        go_wp2_with fail
        go_ret
        first
          | exact ⟨RN.out HNO.out, BEL.out⟩
          | (refine ⟨Eq.trans ?_ (RN.out HNO.out), BEL.out⟩; show Ending.returned (Value.bool _) = Ending.returned (Value.bool _); congr 2; simp_all)
      by_cases ht : nt = 0
      rotate_left
      · have eT2 : T.toList.isEmpty = false := by rw [eT]; simpa using ht
        have HNO : Hid (¬ inF k v l N z ns nt n ph) := Lib.hid (by
          unfold inF
          rintro (⟨h1, h2, h3⟩ | ⟨h1, h2, h3, h4⟩ | ⟨h1, h2, h3⟩ | ⟨h1, h2, h3, h4, h5, h6, h7⟩ | ⟨h1, h2, h3, h4, h5, h6⟩) <;> first | omega | exact hVf h2 | exact hUf h3 | exact hUf h2 | exact hp h4)
        go_wp2_with fail
        go_ret
        first
          | exact ⟨RN.out HNO.out, BEL.out⟩
          | (refine ⟨Eq.trans ?_ (RN.out HNO.out), BEL.out⟩; show Ending.returned (Value.bool _) = Ending.returned (Value.bool _); congr 2; simp_all)
      have eT2 : T.toList.isEmpty = true := by rw [eT]; simpa using ht
      have HYES : Hid (inF k v l N z ns nt n ph) := Lib.hid (.inr (.inl ⟨.inl hk1, hVt, hz, ht⟩))
      go_wp2_with fail
      go_ret
      first
        | exact ⟨RY.out HYES.out, BEL.out⟩
        | (refine ⟨Eq.trans ?_ (RY.out HYES.out), BEL.out⟩; show Ending.returned (Value.bool _) = Ending.returned (Value.bool _); congr 2; simp_all)
  by_cases hk2 : k = 2
  · cases V with
    | false =>
      have hVf : ¬ (v ≠ 0 ∧ ph = false ∧ n = 0) := of_decide_eq_false HV.out
      have HNO : Hid (¬ inF k v l N z ns nt n ph) := Lib.hid (by
        unfold inF
        rintro (⟨h1, h2, h3⟩ | ⟨h1, h2, h3, h4⟩ | ⟨h1, h2, h3⟩ | ⟨h1, h2, h3, h4, h5, h6, h7⟩ | ⟨h1, h2, h3, h4, h5, h6⟩) <;> first | omega | exact hVf h2 | exact hUf h3 | exact hUf h2 | exact hp h4)
      go_wp2_with fail
      go_ret
      first
        | exact ⟨RN.out HNO.out, BEL.out⟩
        | (refine ⟨Eq.trans ?_ (RN.out HNO.out), BEL.out⟩; show Ending.returned (Value.bool _) = Ending.returned (Value.bool _); congr 2; simp_all)
    | true =>
      have hVt : v ≠ 0 ∧ ph = false ∧ n = 0 := of_decide_eq_true HV.out
      by_cases hz : z ≠ 0
      rotate_left
      · have hz2 : z = 0 := by omega
        have HNO : Hid (¬ inF k v l N z ns nt n ph) := Lib.hid (by
          unfold inF
          rintro (⟨h1, h2, h3⟩ | ⟨h1, h2, h3, h4⟩ | ⟨h1, h2, h3⟩ | ⟨h1, h2, h3, h4, h5, h6, h7⟩ | ⟨h1, h2, h3, h4, h5, h6⟩) <;> first | omega | exact hVf h2 | exact hUf h3 | exact hUf h2 | exact hp h4)
        go_wp2_with fail
        go_ret
        first
          | exact ⟨RN.out HNO.out, BEL.out⟩
          | (refine ⟨Eq.trans ?_ (RN.out HNO.out), BEL.out⟩; show Ending.returned (Value.bool _) = Ending.returned (Value.bool _); congr 2; simp_all)
      by_cases ht : nt = 0
      rotate_left
      · have eT2 : T.toList.isEmpty = false := by rw [eT]; simpa using ht
        have HNO : Hid (¬ inF k v l N z ns nt n ph) := Lib.hid (by
          unfold inF
          rintro (⟨h1, h2, h3⟩ | ⟨h1, h2, h3, h4⟩ | ⟨h1, h2, h3⟩ | ⟨h1, h2, h3, h4, h5, h6, h7⟩ | ⟨h1, h2, h3, h4, h5, h6⟩) <;> first | omega | exact hVf h2 | exact hUf h3 | exact hUf h2 | exact hp h4)
        go_wp2_with fail
        go_ret
        first
          | exact ⟨RN.out HNO.out, BEL.out⟩
          | (refine ⟨Eq.trans ?_ (RN.out HNO.out), BEL.out⟩; show Ending.returned (Value.bool _) = Ending.returned (Value.bool _); congr 2; simp_all)
      have eT2 : T.toList.isEmpty = true := by rw [eT]; simpa using ht
      have HYES : Hid (inF k v l N z ns nt n ph) := Lib.hid (.inr (.inl ⟨.inr hk2, hVt, hz, ht⟩))
      go_wp2_with fail
      go_ret
      first
        | exact ⟨RY.out HYES.out, BEL.out⟩
        | (refine ⟨Eq.trans ?_ (RY.out HYES.out), BEL.out⟩; show Ending.returned (Value.bool _) = Ending.returned (Value.bool _); congr 2; simp_all)
  by_cases hk3 : k = 3
  · cases V with
    | false =>
      have hVf : ¬ (v ≠ 0 ∧ ph = false ∧ n = 0) := of_decide_eq_false HV.out
      have HNO : Hid (¬ inF k v l N z ns nt n ph) := Lib.hid (by
        unfold inF
        rintro (⟨h1, h2, h3⟩ | ⟨h1, h2, h3, h4⟩ | ⟨h1, h2, h3⟩ | ⟨h1, h2, h3, h4, h5, h6, h7⟩ | ⟨h1, h2, h3, h4, h5, h6⟩) <;> first | omega | exact hVf h2 | exact hUf h3 | exact hUf h2 | exact hp h4)
      go_wp2_with fail
      go_ret
      first
        | exact ⟨RN.out HNO.out, BEL.out⟩
        | (refine ⟨Eq.trans ?_ (RN.out HNO.out), BEL.out⟩; show Ending.returned (Value.bool _) = Ending.returned (Value.bool _); congr 2; simp_all)
    | true =>
      have hVt : v ≠ 0 ∧ ph = false ∧ n = 0 := of_decide_eq_true HV.out
      cases U with
      | false =>
        have hUf : ¬ (l = 0 ∧ N = 0 ∧ z = 0) := of_decide_eq_false HU.out
        have HNO : Hid (¬ inF k v l N z ns nt n ph) := Lib.hid (by
          unfold inF
          rintro (⟨h1, h2, h3⟩ | ⟨h1, h2, h3, h4⟩ | ⟨h1, h2, h3⟩ | ⟨h1, h2, h3, h4, h5, h6, h7⟩ | ⟨h1, h2, h3, h4, h5, h6⟩) <;> first | omega | exact hVf h2 | exact hUf h3 | exact hUf h2 | exact hp h4)
        go_wp2_with fail
        go_ret
        first
          | exact ⟨RN.out HNO.out, BEL.out⟩
          | (refine ⟨Eq.trans ?_ (RN.out HNO.out), BEL.out⟩; show Ending.returned (Value.bool _) = Ending.returned (Value.bool _); congr 2; simp_all)
      | true =>
        have hUt : l = 0 ∧ N = 0 ∧ z = 0 := of_decide_eq_true HU.out
        have HYES : Hid (inF k v l N z ns nt n ph) := Lib.hid (.inr (.inr (.inl ⟨hk3, hVt, hUt⟩)))
        go_wp2_with fail
        go_ret
        first
          | exact ⟨RY.out HYES.out, BEL.out⟩
          | (refine ⟨Eq.trans ?_ (RY.out HYES.out), BEL.out⟩; show Ending.returned (Value.bool _) = Ending.returned (Value.bool _); congr 2; simp_all)
  by_cases hk4 : k = 4
  · by_cases hz : z ≠ 0
    rotate_left
    · have hz2 : z = 0 := by omega
      have HNO : Hid (¬ inF k v l N z ns nt n ph) := Lib.hid (by
        unfold inF
        rintro (⟨h1, h2, h3⟩ | ⟨h1, h2, h3, h4⟩ | ⟨h1, h2, h3⟩ | ⟨h1, h2, h3, h4, h5, h6, h7⟩ | ⟨h1, h2, h3, h4, h5, h6⟩) <;> first | omega | exact hVf h2 | exact hUf h3 | exact hUf h2 | exact hp h4)
      go_wp2_with fail
      go_ret
      first
        | exact ⟨RN.out HNO.out, BEL.out⟩
        | (refine ⟨Eq.trans ?_ (RN.out HNO.out), BEL.out⟩; show Ending.returned (Value.bool _) = Ending.returned (Value.bool _); congr 2; simp_all)
    by_cases hv : v = 0
    rotate_left
    · have HNO : Hid (¬ inF k v l N z ns nt n ph) := Lib.hid (by
        unfold inF
        rintro (⟨h1, h2, h3⟩ | ⟨h1, h2, h3, h4⟩ | ⟨h1, h2, h3⟩ | ⟨h1, h2, h3, h4, h5, h6, h7⟩ | ⟨h1, h2, h3, h4, h5, h6⟩) <;> first | omega | exact hVf h2 | exact hUf h3 | exact hUf h2 | exact hp h4)
      go_wp2_with fail
      go_ret
      first
        | exact ⟨RN.out HNO.out, BEL.out⟩
        | (refine ⟨Eq.trans ?_ (RN.out HNO.out), BEL.out⟩; show Ending.returned (Value.bool _) = Ending.returned (Value.bool _); congr 2; simp_all)
    by_cases hl : l = 0
    rotate_left
    · have HNO : Hid (¬ inF k v l N z ns nt n ph) := Lib.hid (by
        unfold inF
        rintro (⟨h1, h2, h3⟩ | ⟨h1, h2, h3, h4⟩ | ⟨h1, h2, h3⟩ | ⟨h1, h2, h3, h4, h5, h6, h7⟩ | ⟨h1, h2, h3, h4, h5, h6⟩) <;> first | omega | exact hVf h2 | exact hUf h3 | exact hUf h2 | exact hp h4)
      go_wp2_with fail
      go_ret
      first
        | exact ⟨RN.out HNO.out, BEL.out⟩
        | (refine ⟨Eq.trans ?_ (RN.out HNO.out), BEL.out⟩; show Ending.returned (Value.bool _) = Ending.returned (Value.bool _); congr 2; simp_all)
    by_cases hs : ns = 0
    rotate_left
    · have eS2 : S.toList.isEmpty = false := by rw [eS]; simpa using hs
      have HNO : Hid (¬ inF k v l N z ns nt n ph) := Lib.hid (by
        unfold inF
        rintro (⟨h1, h2, h3⟩ | ⟨h1, h2, h3, h4⟩ | ⟨h1, h2, h3⟩ | ⟨h1, h2, h3, h4, h5, h6, h7⟩ | ⟨h1, h2, h3, h4, h5, h6⟩) <;> first | omega | exact hVf h2 | exact hUf h3 | exact hUf h2 | exact hp h4)
      go_wp2_with fail
      go_ret
      first
        | exact ⟨RN.out HNO.out, BEL.out⟩
        | (refine ⟨Eq.trans ?_ (RN.out HNO.out), BEL.out⟩; show Ending.returned (Value.bool _) = Ending.returned (Value.bool _); congr 2; simp_all)
    have eS2 : S.toList.isEmpty = true := by rw [eS]; simpa using hs
    by_cases ht : nt = 0
    rotate_left
    · have eT2 : T.toList.isEmpty = false := by rw [eT]; simpa using ht
      have HNO : Hid (¬ inF k v l N z ns nt n ph) := Lib.hid (by
        unfold inF
        rintro (⟨h1, h2, h3⟩ | ⟨h1, h2, h3, h4⟩ | ⟨h1, h2, h3⟩ | ⟨h1, h2, h3, h4, h5, h6, h7⟩ | ⟨h1, h2, h3, h4, h5, h6⟩) <;> first | omega | exact hVf h2 | exact hUf h3 | exact hUf h2 | exact hp h4)
      go_wp2_with fail
      go_ret
      first
        | exact ⟨RN.out HNO.out, BEL.out⟩
        | (refine ⟨Eq.trans ?_ (RN.out HNO.out), BEL.out⟩; show Ending.returned (Value.bool _) = Ending.returned (Value.bool _); congr 2; simp_all)
    have eT2 : T.toList.isEmpty = true := by rw [eT]; simpa using ht
    by_cases hn : n = 0
    rotate_left
    · have HNO : Hid (¬ inF k v l N z ns nt n ph) := Lib.hid (by
        unfold inF
        rintro (⟨h1, h2, h3⟩ | ⟨h1, h2, h3, h4⟩ | ⟨h1, h2, h3⟩ | ⟨h1, h2, h3, h4, h5, h6, h7⟩ | ⟨h1, h2, h3, h4, h5, h6⟩) <;> first | omega | exact hVf h2 | exact hUf h3 | exact hUf h2 | exact hp h4)
      go_wp2_with fail
      go_ret
      first
        | exact ⟨RN.out HNO.out, BEL.out⟩
        | (refine ⟨Eq.trans ?_ (RN.out HNO.out), BEL.out⟩; show Ending.returned (Value.bool _) = Ending.returned (Value.bool _); congr 2; simp_all)
    have HYES : Hid (inF k v l N z ns nt n ph) := Lib.hid (.inr (.inr (.inr (.inl ⟨hk4, hz, hv, hl, hs, ht, hn⟩))))
    go_wp2_with fail
    go_ret
    first
      | exact ⟨RY.out HYES.out, BEL.out⟩
      | (refine ⟨Eq.trans ?_ (RY.out HYES.out), BEL.out⟩; show Ending.returned (Value.bool _) = Ending.returned (Value.bool _); congr 2; simp_all)
  by_cases hk5 : k = 5
  · cases U with
    | false =>
      have hUf : ¬ (l = 0 ∧ N = 0 ∧ z = 0) := of_decide_eq_false HU.out
      have HNO : Hid (¬ inF k v l N z ns nt n ph) := Lib.hid (by
        unfold inF
        rintro (⟨h1, h2, h3⟩ | ⟨h1, h2, h3, h4⟩ | ⟨h1, h2, h3⟩ | ⟨h1, h2, h3, h4, h5, h6, h7⟩ | ⟨h1, h2, h3, h4, h5, h6⟩) <;> first | omega | exact hVf h2 | exact hUf h3 | exact hUf h2 | exact hp h4)
      go_wp2_with fail
      go_ret
      first
        | exact ⟨RN.out HNO.out, BEL.out⟩
        | (refine ⟨Eq.trans ?_ (RN.out HNO.out), BEL.out⟩; show Ending.returned (Value.bool _) = Ending.returned (Value.bool _); congr 2; simp_all)
    | true =>
      have hUt : l = 0 ∧ N = 0 ∧ z = 0 := of_decide_eq_true HU.out
      by_cases hv : v = 0
      rotate_left
      · have HNO : Hid (¬ inF k v l N z ns nt n ph) := Lib.hid (by
          unfold inF
          rintro (⟨h1, h2, h3⟩ | ⟨h1, h2, h3, h4⟩ | ⟨h1, h2, h3⟩ | ⟨h1, h2, h3, h4, h5, h6, h7⟩ | ⟨h1, h2, h3, h4, h5, h6⟩) <;> first | omega | exact hVf h2 | exact hUf h3 | exact hUf h2 | exact hp h4)
        go_wp2_with fail
        go_ret
        first
          | exact ⟨RN.out HNO.out, BEL.out⟩
          | (refine ⟨Eq.trans ?_ (RN.out HNO.out), BEL.out⟩; show Ending.returned (Value.bool _) = Ending.returned (Value.bool _); congr 2; simp_all)
      by_cases hp : ph = false
      rotate_left
      · have hp2 : ph = true := by simpa using hp
        have HNO : Hid (¬ inF k v l N z ns nt n ph) := Lib.hid (by
          unfold inF
          rintro (⟨h1, h2, h3⟩ | ⟨h1, h2, h3, h4⟩ | ⟨h1, h2, h3⟩ | ⟨h1, h2, h3, h4, h5, h6, h7⟩ | ⟨h1, h2, h3, h4, h5, h6⟩) <;> first | omega | exact hVf h2 | exact hUf h3 | exact hUf h2 | exact hp h4)
        go_wp2_with fail
        go_ret
        first
          | exact ⟨RN.out HNO.out, BEL.out⟩
          | (refine ⟨Eq.trans ?_ (RN.out HNO.out), BEL.out⟩; show Ending.returned (Value.bool _) = Ending.returned (Value.bool _); congr 2; simp_all)
      by_cases ht : nt = 0
      rotate_left
      · have eT2 : T.toList.isEmpty = false := by rw [eT]; simpa using ht
        have HNO : Hid (¬ inF k v l N z ns nt n ph) := Lib.hid (by
          unfold inF
          rintro (⟨h1, h2, h3⟩ | ⟨h1, h2, h3, h4⟩ | ⟨h1, h2, h3⟩ | ⟨h1, h2, h3, h4, h5, h6, h7⟩ | ⟨h1, h2, h3, h4, h5, h6⟩) <;> first | omega | exact hVf h2 | exact hUf h3 | exact hUf h2 | exact hp h4)
        go_wp2_with fail
        go_ret
        first
          | exact ⟨RN.out HNO.out, BEL.out⟩
          | (refine ⟨Eq.trans ?_ (RN.out HNO.out), BEL.out⟩; show Ending.returned (Value.bool _) = Ending.returned (Value.bool _); congr 2; simp_all)
      have eT2 : T.toList.isEmpty = true := by rw [eT]; simpa using ht
      by_cases hn : n ≠ 0
      rotate_left
      · have hn2 : n = 0 := by omega
        have HNO : Hid (¬ inF k v l N z ns nt n ph) := Lib.hid (by
          unfold inF
          rintro (⟨h1, h2, h3⟩ | ⟨h1, h2, h3, h4⟩ | ⟨h1, h2, h3⟩ | ⟨h1, h2, h3, h4, h5, h6, h7⟩ | ⟨h1, h2, h3, h4, h5, h6⟩) <;> first | omega | exact hVf h2 | exact hUf h3 | exact hUf h2 | exact hp h4)
        go_wp2_with fail
        go_ret
        first
          | exact ⟨RN.out HNO.out, BEL.out⟩
          | (refine ⟨Eq.trans ?_ (RN.out HNO.out), BEL.out⟩; show Ending.returned (Value.bool _) = Ending.returned (Value.bool _); congr 2; simp_all)
      have HYES : Hid (inF k v l N z ns nt n ph) := Lib.hid (.inr (.inr (.inr (.inr ⟨hk5, hUt, hv, hp, ht, hn⟩))))
      go_wp2_with fail
      go_ret
      first
        | exact ⟨RY.out HYES.out, BEL.out⟩
        | (refine ⟨Eq.trans ?_ (RY.out HYES.out), BEL.out⟩; show Ending.returned (Value.bool _) = Ending.returned (Value.bool _); congr 2; simp_all)
  have HNO : Hid (¬ inF k v l N z ns nt n ph) := Lib.hid (by
    unfold inF
    rintro (⟨h1, h2, h3⟩ | ⟨h1, h2, h3, h4⟩ | ⟨h1, h2, h3⟩ | ⟨h1, h2, h3, h4, h5, h6, h7⟩ | ⟨h1, h2, h3, h4, h5, h6⟩) <;> first | omega | exact hVf h2 | exact hUf h3 | exact hUf h2 | exact hp h4)
  go_wp2_with fail
  go_ret
  first
    | exact ⟨RN.out HNO.out, BEL.out⟩
    | (refine ⟨Eq.trans ?_ (RN.out HNO.out), BEL.out⟩; show Ending.returned (Value.bool _) = Ending.returned (Value.bool _); congr 2; simp_all)
end Go.Proofs.YtcgbhcmgddgheaaDoor
