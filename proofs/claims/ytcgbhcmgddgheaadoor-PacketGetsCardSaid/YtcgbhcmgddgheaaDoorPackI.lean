/-
  THE DOCUMENT'S ANSWER FOR packet: is a header in form?
-/
import Derived.Test.YtcgbhcmgddgheaaDoorPackH
namespace Go.Proofs.YtcgbhcmgddgheaaDoor
open Go Go.RowKit Go.BigFrame
set_option linter.unusedSimpArgs false
set_option linter.unusedVariables false
set_option maxRecDepth 100000
theorem word_yes (n : Int) (h0 : 0 ≤ n) (h1 : n ≤ 4294967295) (w : World) : Calls Tryd.prog 75 #[.int .i64 n] w fun e w' => e = .returned (.bool true) ∧ w = w' := by
  have h2 : n < 4294967296 := by omega
  go_enter Tryd.func75, Tryd.ntmps75
  go_wp2_with fail
  go_ret
  exact ⟨by first | rfl | simp [h2], rfl⟩
theorem word_no (n : Int) (h : ¬ (0 ≤ n ∧ n ≤ 4294967295)) (w : World) : Calls Tryd.prog 75 #[.int .i64 n] w fun e w' => e = .returned (.bool false) ∧ w = w' := by
  by_cases h0 : 0 ≤ n
  · have h2 : ¬ n < 4294967296 := by omega
    clear h
    go_enter Tryd.func75, Tryd.ntmps75
    go_wp2_with fail
    go_ret
    exact ⟨by first | rfl | simp [h2] | (simp; omega), rfl⟩
  · clear h
    go_enter Tryd.func75, Tryd.ntmps75
    go_wp2_with fail
    go_ret
    exact ⟨rfl, rfl⟩
def rightP (k v l N z : Int) (nd ns nt n : Nat) (ph : Bool) (G : List Int) : Prop := inB G nd ns nt v l N z ∧ inF k v l N z ns nt n ph
instance (k v l N z : Int) (nd ns nt n : Nat) (ph : Bool) (G : List Int) : Decidable (rightP k v l N z nd ns nt n ph G) := by unfold rightP; infer_instance
set_option maxHeartbeats 16000000 in
theorem right_any (k v l N z : Int) (D S T : ByteArray) (nd ns nt : Nat) (hD : D.size = nd) (hS : S.size = ns) (hT : T.size = nt) (ph : Bool) (a : Option Addr) (c n : Nat) (G : List Int) (w : World) (hn : G.length = n) (hL : IntsIn w (.slice a n c) G) :
    Calls Tryd.prog 54 #[.agg (hdC k v D S T l N z ph (.slice a n c))] w fun e w' => e = .returned (.bool (decide (rightP k v l N z nd ns nt n ph G))) ∧ Below w.heap.size w w' := by
  have eS := isEmpty_of hS
  have eT := isEmpty_of hT
  obtain ⟨a', c', e, hc, hat⟩ := hL.at_
  injection e with ea en ec
  have HAT := Lib.hid hat
  have HA := Lib.hid ea
  have HN := Lib.hid hn
  have hn63 : n ≤ 9223372036854775807 := by have := hc.1; have := hc.2; unfold maxLen at *; omega
  have GI := Lib.hid (fun (i : Nat) (hi : i < n) => (⟨G[i]'(by omega), rfl, List.getElem_mem _⟩ : ∃ y, G[i]'(by omega) = y ∧ y ∈ G))
  have GA := Lib.hid (fun (x : Int) (hx : x ∈ G) => (List.getElem_of_mem hx))
  obtain ⟨B, hB⟩ : ∃ B, decide (rightP k v l N z nd ns nt n ph G) = B := ⟨_, rfl⟩
  have RN := Lib.hid (fun (h : ¬ rightP k v l N z nd ns nt n ph G) => (ret_no h).trans (by rw [hB]))
  have RY := Lib.hid (fun (h : rightP k v l N z nd ns nt n ph G) => (ret_yes h).trans (by rw [hB]))
  rw [hB]
  clear hat hL hB hc ea en ec
  unfold hdC
  go_enter Tryd.func54, Tryd.ntmps54
  have row := heap_alloc_last w (.cells #[.int .i64 k, .int .i64 v, .string D, .string S, .string T, .int .i64 l, .int .i64 N, .int .i64 z, .bool ph, .slice a n c] 63)
  have bel := (Below.refl w.heap.size w).alloc (Nat.le_refl _) (.cells #[.int .i64 k, .int .i64 v, .string D, .string S, .string T, .int .i64 l, .int .i64 N, .int .i64 z, .bool ph, .slice a n c] 63)
  go_upto_region 1 with (fail)
  generalize w.alloc _ = wa at *
  obtain ⟨c0, c1, c2, c3, c4, c5, c6, c7, c8, c9⟩ := cells10 row
  have BEL := Lib.hid bel
  clear row bel
  generalize Value.agg #[.int .i64 k, .int .i64 v, .string D, .string S, .string T, .int .i64 l, .int .i64 N, .int .i64 z, .bool ph, .slice a n c] = PV
  by_cases hd : nd ≤ 20
  rotate_left
  · have hId : (20 : Int) < (nd : Int) := by omega
    have HNO : Hid (¬ rightP k v l N z nd ns nt n ph G) := Lib.hid (by
      rintro ⟨⟨b0, b1, b2, b3, b4, b5, b6, b7, b8⟩, hf⟩
      unfold word32 at b5
      have hnn := HN.out
      unfold inF at hf
      rcases hf with ⟨h1, ⟨h2, hpf, h3⟩, h4⟩ | ⟨h1, ⟨h2, hpf, h3⟩, h4, h5⟩ | ⟨h1, ⟨h2, hpf, h3⟩, h4, h5, h6⟩ | ⟨h1, h2, h3, h4, h5, h6, h7⟩ | ⟨h1, ⟨h2, h3, h4⟩, h5, hpf, h6, h7⟩ <;> first | omega | exact hp hpf)
    go_wp2_with (first | (go_at_call 75; with_reducible refine (word_yes _ hv.1 hv.2 _).mono ?_; rintro e w' ⟨rfl, rfl⟩) | (go_at_call 75; with_reducible refine (word_no _ hv _).mono ?_; rintro e w' ⟨rfl, rfl⟩) | fail)
    go_ret
    first
      | exact ⟨RN.out HNO.out, BEL.out⟩
      | (refine ⟨Eq.trans ?_ (RN.out HNO.out), BEL.out⟩; show Ending.returned (Value.bool _) = Ending.returned (Value.bool _); congr 2; simp_all)
  have hId : ¬ (20 : Int) < (nd : Int) := by omega
  by_cases hs : ns ≤ 20
  rotate_left
  · have hIs : (20 : Int) < (ns : Int) := by omega
    have HNO : Hid (¬ rightP k v l N z nd ns nt n ph G) := Lib.hid (by
      rintro ⟨⟨b0, b1, b2, b3, b4, b5, b6, b7, b8⟩, hf⟩
      unfold word32 at b5
      have hnn := HN.out
      unfold inF at hf
      rcases hf with ⟨h1, ⟨h2, hpf, h3⟩, h4⟩ | ⟨h1, ⟨h2, hpf, h3⟩, h4, h5⟩ | ⟨h1, ⟨h2, hpf, h3⟩, h4, h5, h6⟩ | ⟨h1, h2, h3, h4, h5, h6, h7⟩ | ⟨h1, ⟨h2, h3, h4⟩, h5, hpf, h6, h7⟩ <;> first | omega | exact hp hpf)
    go_wp2_with (first | (go_at_call 75; with_reducible refine (word_yes _ hv.1 hv.2 _).mono ?_; rintro e w' ⟨rfl, rfl⟩) | (go_at_call 75; with_reducible refine (word_no _ hv _).mono ?_; rintro e w' ⟨rfl, rfl⟩) | fail)
    go_ret
    first
      | exact ⟨RN.out HNO.out, BEL.out⟩
      | (refine ⟨Eq.trans ?_ (RN.out HNO.out), BEL.out⟩; show Ending.returned (Value.bool _) = Ending.returned (Value.bool _); congr 2; simp_all)
  have hIs : ¬ (20 : Int) < (ns : Int) := by omega
  by_cases hv : 0 ≤ v ∧ v ≤ 4294967295
  rotate_left
  · have HNO : Hid (¬ rightP k v l N z nd ns nt n ph G) := Lib.hid (by
      rintro ⟨⟨b0, b1, b2, b3, b4, b5, b6, b7, b8⟩, hf⟩
      unfold word32 at b5
      have hnn := HN.out
      unfold inF at hf
      rcases hf with ⟨h1, ⟨h2, hpf, h3⟩, h4⟩ | ⟨h1, ⟨h2, hpf, h3⟩, h4, h5⟩ | ⟨h1, ⟨h2, hpf, h3⟩, h4, h5, h6⟩ | ⟨h1, h2, h3, h4, h5, h6, h7⟩ | ⟨h1, ⟨h2, h3, h4⟩, h5, hpf, h6, h7⟩ <;> first | omega | exact hp hpf)
    go_wp2_with (first | (go_at_call 75; with_reducible refine (word_yes _ hv.1 hv.2 _).mono ?_; rintro e w' ⟨rfl, rfl⟩) | (go_at_call 75; with_reducible refine (word_no _ hv _).mono ?_; rintro e w' ⟨rfl, rfl⟩) | fail)
    go_ret
    first
      | exact ⟨RN.out HNO.out, BEL.out⟩
      | (refine ⟨Eq.trans ?_ (RN.out HNO.out), BEL.out⟩; show Ending.returned (Value.bool _) = Ending.returned (Value.bool _); congr 2; simp_all)
  by_cases ht : nt ≤ 512
  rotate_left
  · have hIt : (512 : Int) < (nt : Int) := by omega
    have HNO : Hid (¬ rightP k v l N z nd ns nt n ph G) := Lib.hid (by
      rintro ⟨⟨b0, b1, b2, b3, b4, b5, b6, b7, b8⟩, hf⟩
      unfold word32 at b5
      have hnn := HN.out
      unfold inF at hf
      rcases hf with ⟨h1, ⟨h2, hpf, h3⟩, h4⟩ | ⟨h1, ⟨h2, hpf, h3⟩, h4, h5⟩ | ⟨h1, ⟨h2, hpf, h3⟩, h4, h5, h6⟩ | ⟨h1, h2, h3, h4, h5, h6, h7⟩ | ⟨h1, ⟨h2, h3, h4⟩, h5, hpf, h6, h7⟩ <;> first | omega | exact hp hpf)
    go_wp2_with (first | (go_at_call 75; with_reducible refine (word_yes _ hv.1 hv.2 _).mono ?_; rintro e w' ⟨rfl, rfl⟩) | (go_at_call 75; with_reducible refine (word_no _ hv _).mono ?_; rintro e w' ⟨rfl, rfl⟩) | fail)
    go_ret
    first
      | exact ⟨RN.out HNO.out, BEL.out⟩
      | (refine ⟨Eq.trans ?_ (RN.out HNO.out), BEL.out⟩; show Ending.returned (Value.bool _) = Ending.returned (Value.bool _); congr 2; simp_all)
  have hIt : ¬ (512 : Int) < (nt : Int) := by omega
  by_cases hl0 : 0 ≤ l
  rotate_left
  · have hIl0 : l < 0 := by omega
    have HNO : Hid (¬ rightP k v l N z nd ns nt n ph G) := Lib.hid (by
      rintro ⟨⟨b0, b1, b2, b3, b4, b5, b6, b7, b8⟩, hf⟩
      unfold word32 at b5
      have hnn := HN.out
      unfold inF at hf
      rcases hf with ⟨h1, ⟨h2, hpf, h3⟩, h4⟩ | ⟨h1, ⟨h2, hpf, h3⟩, h4, h5⟩ | ⟨h1, ⟨h2, hpf, h3⟩, h4, h5, h6⟩ | ⟨h1, h2, h3, h4, h5, h6, h7⟩ | ⟨h1, ⟨h2, h3, h4⟩, h5, hpf, h6, h7⟩ <;> first | omega | exact hp hpf)
    go_wp2_with (first | (go_at_call 75; with_reducible refine (word_yes _ hv.1 hv.2 _).mono ?_; rintro e w' ⟨rfl, rfl⟩) | (go_at_call 75; with_reducible refine (word_no _ hv _).mono ?_; rintro e w' ⟨rfl, rfl⟩) | fail)
    go_ret
    first
      | exact ⟨RN.out HNO.out, BEL.out⟩
      | (refine ⟨Eq.trans ?_ (RN.out HNO.out), BEL.out⟩; show Ending.returned (Value.bool _) = Ending.returned (Value.bool _); congr 2; simp_all)
  have hIl0 : ¬ l < 0 := by omega
  by_cases hl1 : l ≤ 16383
  rotate_left
  · have hIl1 : 16383 < l := by omega
    have HNO : Hid (¬ rightP k v l N z nd ns nt n ph G) := Lib.hid (by
      rintro ⟨⟨b0, b1, b2, b3, b4, b5, b6, b7, b8⟩, hf⟩
      unfold word32 at b5
      have hnn := HN.out
      unfold inF at hf
      rcases hf with ⟨h1, ⟨h2, hpf, h3⟩, h4⟩ | ⟨h1, ⟨h2, hpf, h3⟩, h4, h5⟩ | ⟨h1, ⟨h2, hpf, h3⟩, h4, h5, h6⟩ | ⟨h1, h2, h3, h4, h5, h6, h7⟩ | ⟨h1, ⟨h2, h3, h4⟩, h5, hpf, h6, h7⟩ <;> first | omega | exact hp hpf)
    go_wp2_with (first | (go_at_call 75; with_reducible refine (word_yes _ hv.1 hv.2 _).mono ?_; rintro e w' ⟨rfl, rfl⟩) | (go_at_call 75; with_reducible refine (word_no _ hv _).mono ?_; rintro e w' ⟨rfl, rfl⟩) | fail)
    go_ret
    first
      | exact ⟨RN.out HNO.out, BEL.out⟩
      | (refine ⟨Eq.trans ?_ (RN.out HNO.out), BEL.out⟩; show Ending.returned (Value.bool _) = Ending.returned (Value.bool _); congr 2; simp_all)
  have hIl1 : ¬ 16383 < l := by omega
  by_cases hN0 : 0 ≤ N
  rotate_left
  · have hIN0 : N < 0 := by omega
    have HNO : Hid (¬ rightP k v l N z nd ns nt n ph G) := Lib.hid (by
      rintro ⟨⟨b0, b1, b2, b3, b4, b5, b6, b7, b8⟩, hf⟩
      unfold word32 at b5
      have hnn := HN.out
      unfold inF at hf
      rcases hf with ⟨h1, ⟨h2, hpf, h3⟩, h4⟩ | ⟨h1, ⟨h2, hpf, h3⟩, h4, h5⟩ | ⟨h1, ⟨h2, hpf, h3⟩, h4, h5, h6⟩ | ⟨h1, h2, h3, h4, h5, h6, h7⟩ | ⟨h1, ⟨h2, h3, h4⟩, h5, hpf, h6, h7⟩ <;> first | omega | exact hp hpf)
    go_wp2_with (first | (go_at_call 75; with_reducible refine (word_yes _ hv.1 hv.2 _).mono ?_; rintro e w' ⟨rfl, rfl⟩) | (go_at_call 75; with_reducible refine (word_no _ hv _).mono ?_; rintro e w' ⟨rfl, rfl⟩) | fail)
    go_ret
    first
      | exact ⟨RN.out HNO.out, BEL.out⟩
      | (refine ⟨Eq.trans ?_ (RN.out HNO.out), BEL.out⟩; show Ending.returned (Value.bool _) = Ending.returned (Value.bool _); congr 2; simp_all)
  have hIN0 : ¬ N < 0 := by omega
  by_cases hN1 : N ≤ 4611686018427387903
  rotate_left
  · have hIN1 : 4611686018427387903 < N := by omega
    have HNO : Hid (¬ rightP k v l N z nd ns nt n ph G) := Lib.hid (by
      rintro ⟨⟨b0, b1, b2, b3, b4, b5, b6, b7, b8⟩, hf⟩
      unfold word32 at b5
      have hnn := HN.out
      unfold inF at hf
      rcases hf with ⟨h1, ⟨h2, hpf, h3⟩, h4⟩ | ⟨h1, ⟨h2, hpf, h3⟩, h4, h5⟩ | ⟨h1, ⟨h2, hpf, h3⟩, h4, h5, h6⟩ | ⟨h1, h2, h3, h4, h5, h6, h7⟩ | ⟨h1, ⟨h2, h3, h4⟩, h5, hpf, h6, h7⟩ <;> first | omega | exact hp hpf)
    go_wp2_with (first | (go_at_call 75; with_reducible refine (word_yes _ hv.1 hv.2 _).mono ?_; rintro e w' ⟨rfl, rfl⟩) | (go_at_call 75; with_reducible refine (word_no _ hv _).mono ?_; rintro e w' ⟨rfl, rfl⟩) | fail)
    go_ret
    first
      | exact ⟨RN.out HNO.out, BEL.out⟩
      | (refine ⟨Eq.trans ?_ (RN.out HNO.out), BEL.out⟩; show Ending.returned (Value.bool _) = Ending.returned (Value.bool _); congr 2; simp_all)
  have hIN1 : ¬ 4611686018427387903 < N := by omega
  by_cases hg : n ≤ 16
  rotate_left
  · have hIg : (16 : Int) < (n : Int) := by omega
    have HNO : Hid (¬ rightP k v l N z nd ns nt n ph G) := Lib.hid (by
      rintro ⟨⟨b0, b1, b2, b3, b4, b5, b6, b7, b8⟩, hf⟩
      unfold word32 at b5
      have hnn := HN.out
      unfold inF at hf
      rcases hf with ⟨h1, ⟨h2, hpf, h3⟩, h4⟩ | ⟨h1, ⟨h2, hpf, h3⟩, h4, h5⟩ | ⟨h1, ⟨h2, hpf, h3⟩, h4, h5, h6⟩ | ⟨h1, h2, h3, h4, h5, h6, h7⟩ | ⟨h1, ⟨h2, h3, h4⟩, h5, hpf, h6, h7⟩ <;> first | omega | exact hp hpf)
    go_wp2_with (first | (go_at_call 75; with_reducible refine (word_yes _ hv.1 hv.2 _).mono ?_; rintro e w' ⟨rfl, rfl⟩) | (go_at_call 75; with_reducible refine (word_no _ hv _).mono ?_; rintro e w' ⟨rfl, rfl⟩) | fail)
    go_ret
    first
      | exact ⟨RN.out HNO.out, BEL.out⟩
      | (refine ⟨Eq.trans ?_ (RN.out HNO.out), BEL.out⟩; show Ending.returned (Value.bool _) = Ending.returned (Value.bool _); congr 2; simp_all)
  have hIg : ¬ (16 : Int) < (n : Int) := by omega
  go_upto_region 4 with (first | (go_at_call 75; with_reducible refine (word_yes _ hv.1 hv.2 _).mono ?_; rintro e w' ⟨rfl, rfl⟩) | (go_at_call 75; with_reducible refine (word_no _ hv _).mono ?_; rintro e w' ⟨rfl, rfl⟩) | fail)
  go_loopw [3] (fun s3 wr => ∃ i : Nat, i ≤ n ∧ s3 = .int .i64 (i : Int) ∧ (∀ j, ∀ hj : j < i, word32 (G.getD j 0)) ∧ wr = wa) (fun s3 _ => n - (intOf s3).toNat)
  case atStart => exact ⟨0, by omega, rfl, fun j hj => by omega, rfl⟩
  case round =>
    obtain ⟨i, hi, rfl, hw, rfl⟩ := hrel
    have HW := Lib.hid hw
    clear hw
    by_cases hin : i < n
    · have hinI : (i : Int) < (n : Int) := by omega
      obtain ⟨b, o, ea, hbl, hcell⟩ := HAT.out i (by rw [HN.out]; exact hin)
      rw [← HA.out] at ea
      subst ea
      have hcell2 := (BEL.out.cell (p := ⟨b, o + i, none⟩) hbl).trans hcell
      obtain ⟨y, hy, hmem⟩ := GI.out i hin
      rw [hy] at hcell2
      have hyD : G.getD i 0 = y := by rw [List.getD_eq_getElem?_getD, List.getElem?_eq_getElem (by rw [HN.out]; exact hin)]; exact hy
      have HY := Lib.hid hyD
      have HM := Lib.hid hmem
      clear hcell hy hyD hmem hbl
      by_cases hy32 : 0 ≤ y ∧ y ≤ 4294967295
      · go_wp2_with (go_at_call 75; with_reducible refine (word_yes _ hy32.1 hy32.2 _).mono ?_; rintro e w' ⟨rfl, rfl⟩)
        go_roundw
        case rel => exact ⟨i + 1, by omega, by go_num, fun j hj => by
          by_cases hji : j < i
          · exact HW.out j hji
          · obtain rfl : j = i := by omega
            rw [HY.out]; exact hy32, trivial⟩
        case measure => simp [intOf]; omega
      · have HNO := Lib.hid (fun h : rightP k v l N z nd ns nt n ph G => hy32 (h.1.1 y HM.out))
        go_wp2_with (go_at_call 75; with_reducible refine (word_no _ hy32 _).mono ?_; rintro e w' ⟨rfl, rfl⟩)
        go_ret
        exact ⟨RN.out HNO.out, BEL.out⟩
    · obtain rfl : i = n := by omega
      have ALL : Hid (∀ x ∈ G, word32 x) := Lib.hid (fun x hx => by
        obtain ⟨j, hj, rfl⟩ := GA.out x hx
        have := HW.out j (by rw [← HN.out]; exact hj)
        rw [List.getD_eq_getElem?_getD, List.getElem?_eq_getElem hj] at this
        exact this)
      clear HW GI GA HAT
      go_upto_region 9 with (fail)
      by_cases hk0 : k = 0
      · by_cases hV : v ≠ 0
        rotate_left
        · have hv2 : v = 0 := by omega
          have HNO : Hid (¬ rightP k v l N z nd ns nt i ph G) := Lib.hid (by
            rintro ⟨⟨b0, b1, b2, b3, b4, b5, b6, b7, b8⟩, hf⟩
            unfold word32 at b5
            have hnn := HN.out
            unfold inF at hf
            rcases hf with ⟨h1, ⟨h2, hpf, h3⟩, h4⟩ | ⟨h1, ⟨h2, hpf, h3⟩, h4, h5⟩ | ⟨h1, ⟨h2, hpf, h3⟩, h4, h5, h6⟩ | ⟨h1, h2, h3, h4, h5, h6, h7⟩ | ⟨h1, ⟨h2, h3, h4⟩, h5, hpf, h6, h7⟩ <;> first | omega | exact hp hpf)
          go_wp2_with fail
          go_ret
          first
            | exact ⟨RN.out HNO.out, BEL.out⟩
            | (refine ⟨Eq.trans ?_ (RN.out HNO.out), BEL.out⟩; show Ending.returned (Value.bool _) = Ending.returned (Value.bool _); congr 2; simp_all)
        by_cases hp : ph = false
        rotate_left
        · have hp2 : ph = true := by simpa using hp
          have HNO : Hid (¬ rightP k v l N z nd ns nt i ph G) := Lib.hid (by
            rintro ⟨⟨b0, b1, b2, b3, b4, b5, b6, b7, b8⟩, hf⟩
            unfold word32 at b5
            have hnn := HN.out
            unfold inF at hf
            rcases hf with ⟨h1, ⟨h2, hpf, h3⟩, h4⟩ | ⟨h1, ⟨h2, hpf, h3⟩, h4, h5⟩ | ⟨h1, ⟨h2, hpf, h3⟩, h4, h5, h6⟩ | ⟨h1, h2, h3, h4, h5, h6, h7⟩ | ⟨h1, ⟨h2, h3, h4⟩, h5, hpf, h6, h7⟩ <;> first | omega | exact hp hpf)
          go_wp2_with fail
          go_ret
          first
            | exact ⟨RN.out HNO.out, BEL.out⟩
            | (refine ⟨Eq.trans ?_ (RN.out HNO.out), BEL.out⟩; show Ending.returned (Value.bool _) = Ending.returned (Value.bool _); congr 2; simp_all)
        by_cases hn : i = 0
        rotate_left
        · have HNO : Hid (¬ rightP k v l N z nd ns nt i ph G) := Lib.hid (by
            rintro ⟨⟨b0, b1, b2, b3, b4, b5, b6, b7, b8⟩, hf⟩
            unfold word32 at b5
            have hnn := HN.out
            unfold inF at hf
            rcases hf with ⟨h1, ⟨h2, hpf, h3⟩, h4⟩ | ⟨h1, ⟨h2, hpf, h3⟩, h4, h5⟩ | ⟨h1, ⟨h2, hpf, h3⟩, h4, h5, h6⟩ | ⟨h1, h2, h3, h4, h5, h6, h7⟩ | ⟨h1, ⟨h2, h3, h4⟩, h5, hpf, h6, h7⟩ <;> first | omega | exact hp hpf)
          go_wp2_with fail
          go_ret
          first
            | exact ⟨RN.out HNO.out, BEL.out⟩
            | (refine ⟨Eq.trans ?_ (RN.out HNO.out), BEL.out⟩; show Ending.returned (Value.bool _) = Ending.returned (Value.bool _); congr 2; simp_all)
        by_cases hz1 : 1 ≤ z
        rotate_left
        · have hzb : z < 1 := by omega
          have HNO : Hid (¬ rightP k v l N z nd ns nt i ph G) := Lib.hid (by
            rintro ⟨⟨b0, b1, b2, b3, b4, b5, b6, b7, b8⟩, hf⟩
            unfold word32 at b5
            have hnn := HN.out
            unfold inF at hf
            rcases hf with ⟨h1, ⟨h2, hpf, h3⟩, h4⟩ | ⟨h1, ⟨h2, hpf, h3⟩, h4, h5⟩ | ⟨h1, ⟨h2, hpf, h3⟩, h4, h5, h6⟩ | ⟨h1, h2, h3, h4, h5, h6, h7⟩ | ⟨h1, ⟨h2, h3, h4⟩, h5, hpf, h6, h7⟩ <;> first | omega | exact hp hpf)
          go_wp2_with fail
          go_ret
          first
            | exact ⟨RN.out HNO.out, BEL.out⟩
            | (refine ⟨Eq.trans ?_ (RN.out HNO.out), BEL.out⟩; show Ending.returned (Value.bool _) = Ending.returned (Value.bool _); congr 2; simp_all)
        by_cases hz4 : z ≤ 4
        rotate_left
        · have hzb : 4 < z := by omega
          have HNO : Hid (¬ rightP k v l N z nd ns nt i ph G) := Lib.hid (by
            rintro ⟨⟨b0, b1, b2, b3, b4, b5, b6, b7, b8⟩, hf⟩
            unfold word32 at b5
            have hnn := HN.out
            unfold inF at hf
            rcases hf with ⟨h1, ⟨h2, hpf, h3⟩, h4⟩ | ⟨h1, ⟨h2, hpf, h3⟩, h4, h5⟩ | ⟨h1, ⟨h2, hpf, h3⟩, h4, h5, h6⟩ | ⟨h1, h2, h3, h4, h5, h6, h7⟩ | ⟨h1, ⟨h2, h3, h4⟩, h5, hpf, h6, h7⟩ <;> first | omega | exact hp hpf)
          go_wp2_with fail
          go_ret
          first
            | exact ⟨RN.out HNO.out, BEL.out⟩
            | (refine ⟨Eq.trans ?_ (RN.out HNO.out), BEL.out⟩; show Ending.returned (Value.bool _) = Ending.returned (Value.bool _); congr 2; simp_all)
        have HYES : Hid (rightP k v l N z nd ns nt i ph G) := Lib.hid ⟨⟨ALL.out, by rw [HN.out]; exact hg, hd, hs, ht, hv, ⟨hl0, hl1⟩, ⟨hN0, hN1⟩, by omega⟩, .inl ⟨hk0, ⟨hV, hp, hn⟩, by omega⟩⟩
        go_wp2_with fail
        go_ret
        first
          | exact ⟨RY.out HYES.out, BEL.out⟩
          | (refine ⟨Eq.trans ?_ (RY.out HYES.out), BEL.out⟩; show Ending.returned (Value.bool _) = Ending.returned (Value.bool _); congr 2; simp_all)
      by_cases hk1 : k = 1
      · by_cases hV : v ≠ 0
        rotate_left
        · have hv2 : v = 0 := by omega
          have HNO : Hid (¬ rightP k v l N z nd ns nt i ph G) := Lib.hid (by
            rintro ⟨⟨b0, b1, b2, b3, b4, b5, b6, b7, b8⟩, hf⟩
            unfold word32 at b5
            have hnn := HN.out
            unfold inF at hf
            rcases hf with ⟨h1, ⟨h2, hpf, h3⟩, h4⟩ | ⟨h1, ⟨h2, hpf, h3⟩, h4, h5⟩ | ⟨h1, ⟨h2, hpf, h3⟩, h4, h5, h6⟩ | ⟨h1, h2, h3, h4, h5, h6, h7⟩ | ⟨h1, ⟨h2, h3, h4⟩, h5, hpf, h6, h7⟩ <;> first | omega | exact hp hpf)
          go_wp2_with fail
          go_ret
          first
            | exact ⟨RN.out HNO.out, BEL.out⟩
            | (refine ⟨Eq.trans ?_ (RN.out HNO.out), BEL.out⟩; show Ending.returned (Value.bool _) = Ending.returned (Value.bool _); congr 2; simp_all)
        by_cases hp : ph = false
        rotate_left
        · have hp2 : ph = true := by simpa using hp
          have HNO : Hid (¬ rightP k v l N z nd ns nt i ph G) := Lib.hid (by
            rintro ⟨⟨b0, b1, b2, b3, b4, b5, b6, b7, b8⟩, hf⟩
            unfold word32 at b5
            have hnn := HN.out
            unfold inF at hf
            rcases hf with ⟨h1, ⟨h2, hpf, h3⟩, h4⟩ | ⟨h1, ⟨h2, hpf, h3⟩, h4, h5⟩ | ⟨h1, ⟨h2, hpf, h3⟩, h4, h5, h6⟩ | ⟨h1, h2, h3, h4, h5, h6, h7⟩ | ⟨h1, ⟨h2, h3, h4⟩, h5, hpf, h6, h7⟩ <;> first | omega | exact hp hpf)
          go_wp2_with fail
          go_ret
          first
            | exact ⟨RN.out HNO.out, BEL.out⟩
            | (refine ⟨Eq.trans ?_ (RN.out HNO.out), BEL.out⟩; show Ending.returned (Value.bool _) = Ending.returned (Value.bool _); congr 2; simp_all)
        by_cases hn : i = 0
        rotate_left
        · have HNO : Hid (¬ rightP k v l N z nd ns nt i ph G) := Lib.hid (by
            rintro ⟨⟨b0, b1, b2, b3, b4, b5, b6, b7, b8⟩, hf⟩
            unfold word32 at b5
            have hnn := HN.out
            unfold inF at hf
            rcases hf with ⟨h1, ⟨h2, hpf, h3⟩, h4⟩ | ⟨h1, ⟨h2, hpf, h3⟩, h4, h5⟩ | ⟨h1, ⟨h2, hpf, h3⟩, h4, h5, h6⟩ | ⟨h1, h2, h3, h4, h5, h6, h7⟩ | ⟨h1, ⟨h2, h3, h4⟩, h5, hpf, h6, h7⟩ <;> first | omega | exact hp hpf)
          go_wp2_with fail
          go_ret
          first
            | exact ⟨RN.out HNO.out, BEL.out⟩
            | (refine ⟨Eq.trans ?_ (RN.out HNO.out), BEL.out⟩; show Ending.returned (Value.bool _) = Ending.returned (Value.bool _); congr 2; simp_all)
        by_cases hT : nt = 0
        rotate_left
        · have eT2 : T.toList.isEmpty = false := by rw [eT]; simpa using hT
          have HNO : Hid (¬ rightP k v l N z nd ns nt i ph G) := Lib.hid (by
            rintro ⟨⟨b0, b1, b2, b3, b4, b5, b6, b7, b8⟩, hf⟩
            unfold word32 at b5
            have hnn := HN.out
            unfold inF at hf
            rcases hf with ⟨h1, ⟨h2, hpf, h3⟩, h4⟩ | ⟨h1, ⟨h2, hpf, h3⟩, h4, h5⟩ | ⟨h1, ⟨h2, hpf, h3⟩, h4, h5, h6⟩ | ⟨h1, h2, h3, h4, h5, h6, h7⟩ | ⟨h1, ⟨h2, h3, h4⟩, h5, hpf, h6, h7⟩ <;> first | omega | exact hp hpf)
          go_wp2_with fail
          go_ret
          first
            | exact ⟨RN.out HNO.out, BEL.out⟩
            | (refine ⟨Eq.trans ?_ (RN.out HNO.out), BEL.out⟩; show Ending.returned (Value.bool _) = Ending.returned (Value.bool _); congr 2; simp_all)
        have eT2 : T.toList.isEmpty = true := by rw [eT]; simpa using hT
        by_cases hz1 : 1 ≤ z
        rotate_left
        · have hzb : z < 1 := by omega
          have HNO : Hid (¬ rightP k v l N z nd ns nt i ph G) := Lib.hid (by
            rintro ⟨⟨b0, b1, b2, b3, b4, b5, b6, b7, b8⟩, hf⟩
            unfold word32 at b5
            have hnn := HN.out
            unfold inF at hf
            rcases hf with ⟨h1, ⟨h2, hpf, h3⟩, h4⟩ | ⟨h1, ⟨h2, hpf, h3⟩, h4, h5⟩ | ⟨h1, ⟨h2, hpf, h3⟩, h4, h5, h6⟩ | ⟨h1, h2, h3, h4, h5, h6, h7⟩ | ⟨h1, ⟨h2, h3, h4⟩, h5, hpf, h6, h7⟩ <;> first | omega | exact hp hpf)
          go_wp2_with fail
          go_ret
          first
            | exact ⟨RN.out HNO.out, BEL.out⟩
            | (refine ⟨Eq.trans ?_ (RN.out HNO.out), BEL.out⟩; show Ending.returned (Value.bool _) = Ending.returned (Value.bool _); congr 2; simp_all)
        by_cases hz4 : z ≤ 4
        rotate_left
        · have hzb : 4 < z := by omega
          have HNO : Hid (¬ rightP k v l N z nd ns nt i ph G) := Lib.hid (by
            rintro ⟨⟨b0, b1, b2, b3, b4, b5, b6, b7, b8⟩, hf⟩
            unfold word32 at b5
            have hnn := HN.out
            unfold inF at hf
            rcases hf with ⟨h1, ⟨h2, hpf, h3⟩, h4⟩ | ⟨h1, ⟨h2, hpf, h3⟩, h4, h5⟩ | ⟨h1, ⟨h2, hpf, h3⟩, h4, h5, h6⟩ | ⟨h1, h2, h3, h4, h5, h6, h7⟩ | ⟨h1, ⟨h2, h3, h4⟩, h5, hpf, h6, h7⟩ <;> first | omega | exact hp hpf)
          go_wp2_with fail
          go_ret
          first
            | exact ⟨RN.out HNO.out, BEL.out⟩
            | (refine ⟨Eq.trans ?_ (RN.out HNO.out), BEL.out⟩; show Ending.returned (Value.bool _) = Ending.returned (Value.bool _); congr 2; simp_all)
        have HYES : Hid (rightP k v l N z nd ns nt i ph G) := Lib.hid ⟨⟨ALL.out, by rw [HN.out]; exact hg, hd, hs, ht, hv, ⟨hl0, hl1⟩, ⟨hN0, hN1⟩, by omega⟩, .inr (.inl ⟨.inl hk1, ⟨hV, hp, hn⟩, by omega, hT⟩)⟩
        go_wp2_with fail
        go_ret
        first
          | exact ⟨RY.out HYES.out, BEL.out⟩
          | (refine ⟨Eq.trans ?_ (RY.out HYES.out), BEL.out⟩; show Ending.returned (Value.bool _) = Ending.returned (Value.bool _); congr 2; simp_all)
      by_cases hk2 : k = 2
      · by_cases hV : v ≠ 0
        rotate_left
        · have hv2 : v = 0 := by omega
          have HNO : Hid (¬ rightP k v l N z nd ns nt i ph G) := Lib.hid (by
            rintro ⟨⟨b0, b1, b2, b3, b4, b5, b6, b7, b8⟩, hf⟩
            unfold word32 at b5
            have hnn := HN.out
            unfold inF at hf
            rcases hf with ⟨h1, ⟨h2, hpf, h3⟩, h4⟩ | ⟨h1, ⟨h2, hpf, h3⟩, h4, h5⟩ | ⟨h1, ⟨h2, hpf, h3⟩, h4, h5, h6⟩ | ⟨h1, h2, h3, h4, h5, h6, h7⟩ | ⟨h1, ⟨h2, h3, h4⟩, h5, hpf, h6, h7⟩ <;> first | omega | exact hp hpf)
          go_wp2_with fail
          go_ret
          first
            | exact ⟨RN.out HNO.out, BEL.out⟩
            | (refine ⟨Eq.trans ?_ (RN.out HNO.out), BEL.out⟩; show Ending.returned (Value.bool _) = Ending.returned (Value.bool _); congr 2; simp_all)
        by_cases hp : ph = false
        rotate_left
        · have hp2 : ph = true := by simpa using hp
          have HNO : Hid (¬ rightP k v l N z nd ns nt i ph G) := Lib.hid (by
            rintro ⟨⟨b0, b1, b2, b3, b4, b5, b6, b7, b8⟩, hf⟩
            unfold word32 at b5
            have hnn := HN.out
            unfold inF at hf
            rcases hf with ⟨h1, ⟨h2, hpf, h3⟩, h4⟩ | ⟨h1, ⟨h2, hpf, h3⟩, h4, h5⟩ | ⟨h1, ⟨h2, hpf, h3⟩, h4, h5, h6⟩ | ⟨h1, h2, h3, h4, h5, h6, h7⟩ | ⟨h1, ⟨h2, h3, h4⟩, h5, hpf, h6, h7⟩ <;> first | omega | exact hp hpf)
          go_wp2_with fail
          go_ret
          first
            | exact ⟨RN.out HNO.out, BEL.out⟩
            | (refine ⟨Eq.trans ?_ (RN.out HNO.out), BEL.out⟩; show Ending.returned (Value.bool _) = Ending.returned (Value.bool _); congr 2; simp_all)
        by_cases hn : i = 0
        rotate_left
        · have HNO : Hid (¬ rightP k v l N z nd ns nt i ph G) := Lib.hid (by
            rintro ⟨⟨b0, b1, b2, b3, b4, b5, b6, b7, b8⟩, hf⟩
            unfold word32 at b5
            have hnn := HN.out
            unfold inF at hf
            rcases hf with ⟨h1, ⟨h2, hpf, h3⟩, h4⟩ | ⟨h1, ⟨h2, hpf, h3⟩, h4, h5⟩ | ⟨h1, ⟨h2, hpf, h3⟩, h4, h5, h6⟩ | ⟨h1, h2, h3, h4, h5, h6, h7⟩ | ⟨h1, ⟨h2, h3, h4⟩, h5, hpf, h6, h7⟩ <;> first | omega | exact hp hpf)
          go_wp2_with fail
          go_ret
          first
            | exact ⟨RN.out HNO.out, BEL.out⟩
            | (refine ⟨Eq.trans ?_ (RN.out HNO.out), BEL.out⟩; show Ending.returned (Value.bool _) = Ending.returned (Value.bool _); congr 2; simp_all)
        by_cases hT : nt = 0
        rotate_left
        · have eT2 : T.toList.isEmpty = false := by rw [eT]; simpa using hT
          have HNO : Hid (¬ rightP k v l N z nd ns nt i ph G) := Lib.hid (by
            rintro ⟨⟨b0, b1, b2, b3, b4, b5, b6, b7, b8⟩, hf⟩
            unfold word32 at b5
            have hnn := HN.out
            unfold inF at hf
            rcases hf with ⟨h1, ⟨h2, hpf, h3⟩, h4⟩ | ⟨h1, ⟨h2, hpf, h3⟩, h4, h5⟩ | ⟨h1, ⟨h2, hpf, h3⟩, h4, h5, h6⟩ | ⟨h1, h2, h3, h4, h5, h6, h7⟩ | ⟨h1, ⟨h2, h3, h4⟩, h5, hpf, h6, h7⟩ <;> first | omega | exact hp hpf)
          go_wp2_with fail
          go_ret
          first
            | exact ⟨RN.out HNO.out, BEL.out⟩
            | (refine ⟨Eq.trans ?_ (RN.out HNO.out), BEL.out⟩; show Ending.returned (Value.bool _) = Ending.returned (Value.bool _); congr 2; simp_all)
        have eT2 : T.toList.isEmpty = true := by rw [eT]; simpa using hT
        by_cases hz1 : 1 ≤ z
        rotate_left
        · have hzb : z < 1 := by omega
          have HNO : Hid (¬ rightP k v l N z nd ns nt i ph G) := Lib.hid (by
            rintro ⟨⟨b0, b1, b2, b3, b4, b5, b6, b7, b8⟩, hf⟩
            unfold word32 at b5
            have hnn := HN.out
            unfold inF at hf
            rcases hf with ⟨h1, ⟨h2, hpf, h3⟩, h4⟩ | ⟨h1, ⟨h2, hpf, h3⟩, h4, h5⟩ | ⟨h1, ⟨h2, hpf, h3⟩, h4, h5, h6⟩ | ⟨h1, h2, h3, h4, h5, h6, h7⟩ | ⟨h1, ⟨h2, h3, h4⟩, h5, hpf, h6, h7⟩ <;> first | omega | exact hp hpf)
          go_wp2_with fail
          go_ret
          first
            | exact ⟨RN.out HNO.out, BEL.out⟩
            | (refine ⟨Eq.trans ?_ (RN.out HNO.out), BEL.out⟩; show Ending.returned (Value.bool _) = Ending.returned (Value.bool _); congr 2; simp_all)
        by_cases hz4 : z ≤ 4
        rotate_left
        · have hzb : 4 < z := by omega
          have HNO : Hid (¬ rightP k v l N z nd ns nt i ph G) := Lib.hid (by
            rintro ⟨⟨b0, b1, b2, b3, b4, b5, b6, b7, b8⟩, hf⟩
            unfold word32 at b5
            have hnn := HN.out
            unfold inF at hf
            rcases hf with ⟨h1, ⟨h2, hpf, h3⟩, h4⟩ | ⟨h1, ⟨h2, hpf, h3⟩, h4, h5⟩ | ⟨h1, ⟨h2, hpf, h3⟩, h4, h5, h6⟩ | ⟨h1, h2, h3, h4, h5, h6, h7⟩ | ⟨h1, ⟨h2, h3, h4⟩, h5, hpf, h6, h7⟩ <;> first | omega | exact hp hpf)
          go_wp2_with fail
          go_ret
          first
            | exact ⟨RN.out HNO.out, BEL.out⟩
            | (refine ⟨Eq.trans ?_ (RN.out HNO.out), BEL.out⟩; show Ending.returned (Value.bool _) = Ending.returned (Value.bool _); congr 2; simp_all)
        have HYES : Hid (rightP k v l N z nd ns nt i ph G) := Lib.hid ⟨⟨ALL.out, by rw [HN.out]; exact hg, hd, hs, ht, hv, ⟨hl0, hl1⟩, ⟨hN0, hN1⟩, by omega⟩, .inr (.inl ⟨.inr hk2, ⟨hV, hp, hn⟩, by omega, hT⟩)⟩
        go_wp2_with fail
        go_ret
        first
          | exact ⟨RY.out HYES.out, BEL.out⟩
          | (refine ⟨Eq.trans ?_ (RY.out HYES.out), BEL.out⟩; show Ending.returned (Value.bool _) = Ending.returned (Value.bool _); congr 2; simp_all)
      by_cases hk3 : k = 3
      · by_cases hV : v ≠ 0
        rotate_left
        · have hv2 : v = 0 := by omega
          have HNO : Hid (¬ rightP k v l N z nd ns nt i ph G) := Lib.hid (by
            rintro ⟨⟨b0, b1, b2, b3, b4, b5, b6, b7, b8⟩, hf⟩
            unfold word32 at b5
            have hnn := HN.out
            unfold inF at hf
            rcases hf with ⟨h1, ⟨h2, hpf, h3⟩, h4⟩ | ⟨h1, ⟨h2, hpf, h3⟩, h4, h5⟩ | ⟨h1, ⟨h2, hpf, h3⟩, h4, h5, h6⟩ | ⟨h1, h2, h3, h4, h5, h6, h7⟩ | ⟨h1, ⟨h2, h3, h4⟩, h5, hpf, h6, h7⟩ <;> first | omega | exact hp hpf)
          go_wp2_with fail
          go_ret
          first
            | exact ⟨RN.out HNO.out, BEL.out⟩
            | (refine ⟨Eq.trans ?_ (RN.out HNO.out), BEL.out⟩; show Ending.returned (Value.bool _) = Ending.returned (Value.bool _); congr 2; simp_all)
        by_cases hL : l = 0
        rotate_left
        · have HNO : Hid (¬ rightP k v l N z nd ns nt i ph G) := Lib.hid (by
            rintro ⟨⟨b0, b1, b2, b3, b4, b5, b6, b7, b8⟩, hf⟩
            unfold word32 at b5
            have hnn := HN.out
            unfold inF at hf
            rcases hf with ⟨h1, ⟨h2, hpf, h3⟩, h4⟩ | ⟨h1, ⟨h2, hpf, h3⟩, h4, h5⟩ | ⟨h1, ⟨h2, hpf, h3⟩, h4, h5, h6⟩ | ⟨h1, h2, h3, h4, h5, h6, h7⟩ | ⟨h1, ⟨h2, h3, h4⟩, h5, hpf, h6, h7⟩ <;> first | omega | exact hp hpf)
          go_wp2_with fail
          go_ret
          first
            | exact ⟨RN.out HNO.out, BEL.out⟩
            | (refine ⟨Eq.trans ?_ (RN.out HNO.out), BEL.out⟩; show Ending.returned (Value.bool _) = Ending.returned (Value.bool _); congr 2; simp_all)
        by_cases hM : N = 0
        rotate_left
        · have HNO : Hid (¬ rightP k v l N z nd ns nt i ph G) := Lib.hid (by
            rintro ⟨⟨b0, b1, b2, b3, b4, b5, b6, b7, b8⟩, hf⟩
            unfold word32 at b5
            have hnn := HN.out
            unfold inF at hf
            rcases hf with ⟨h1, ⟨h2, hpf, h3⟩, h4⟩ | ⟨h1, ⟨h2, hpf, h3⟩, h4, h5⟩ | ⟨h1, ⟨h2, hpf, h3⟩, h4, h5, h6⟩ | ⟨h1, h2, h3, h4, h5, h6, h7⟩ | ⟨h1, ⟨h2, h3, h4⟩, h5, hpf, h6, h7⟩ <;> first | omega | exact hp hpf)
          go_wp2_with fail
          go_ret
          first
            | exact ⟨RN.out HNO.out, BEL.out⟩
            | (refine ⟨Eq.trans ?_ (RN.out HNO.out), BEL.out⟩; show Ending.returned (Value.bool _) = Ending.returned (Value.bool _); congr 2; simp_all)
        by_cases hZ : z = 0
        rotate_left
        · have HNO : Hid (¬ rightP k v l N z nd ns nt i ph G) := Lib.hid (by
            rintro ⟨⟨b0, b1, b2, b3, b4, b5, b6, b7, b8⟩, hf⟩
            unfold word32 at b5
            have hnn := HN.out
            unfold inF at hf
            rcases hf with ⟨h1, ⟨h2, hpf, h3⟩, h4⟩ | ⟨h1, ⟨h2, hpf, h3⟩, h4, h5⟩ | ⟨h1, ⟨h2, hpf, h3⟩, h4, h5, h6⟩ | ⟨h1, h2, h3, h4, h5, h6, h7⟩ | ⟨h1, ⟨h2, h3, h4⟩, h5, hpf, h6, h7⟩ <;> first | omega | exact hp hpf)
          go_wp2_with fail
          go_ret
          first
            | exact ⟨RN.out HNO.out, BEL.out⟩
            | (refine ⟨Eq.trans ?_ (RN.out HNO.out), BEL.out⟩; show Ending.returned (Value.bool _) = Ending.returned (Value.bool _); congr 2; simp_all)
        by_cases hp : ph = false
        rotate_left
        · have hp2 : ph = true := by simpa using hp
          have HNO : Hid (¬ rightP k v l N z nd ns nt i ph G) := Lib.hid (by
            rintro ⟨⟨b0, b1, b2, b3, b4, b5, b6, b7, b8⟩, hf⟩
            unfold word32 at b5
            have hnn := HN.out
            unfold inF at hf
            rcases hf with ⟨h1, ⟨h2, hpf, h3⟩, h4⟩ | ⟨h1, ⟨h2, hpf, h3⟩, h4, h5⟩ | ⟨h1, ⟨h2, hpf, h3⟩, h4, h5, h6⟩ | ⟨h1, h2, h3, h4, h5, h6, h7⟩ | ⟨h1, ⟨h2, h3, h4⟩, h5, hpf, h6, h7⟩ <;> first | omega | exact hp hpf)
          go_wp2_with fail
          go_ret
          first
            | exact ⟨RN.out HNO.out, BEL.out⟩
            | (refine ⟨Eq.trans ?_ (RN.out HNO.out), BEL.out⟩; show Ending.returned (Value.bool _) = Ending.returned (Value.bool _); congr 2; simp_all)
        by_cases hn : i = 0
        rotate_left
        · have HNO : Hid (¬ rightP k v l N z nd ns nt i ph G) := Lib.hid (by
            rintro ⟨⟨b0, b1, b2, b3, b4, b5, b6, b7, b8⟩, hf⟩
            unfold word32 at b5
            have hnn := HN.out
            unfold inF at hf
            rcases hf with ⟨h1, ⟨h2, hpf, h3⟩, h4⟩ | ⟨h1, ⟨h2, hpf, h3⟩, h4, h5⟩ | ⟨h1, ⟨h2, hpf, h3⟩, h4, h5, h6⟩ | ⟨h1, h2, h3, h4, h5, h6, h7⟩ | ⟨h1, ⟨h2, h3, h4⟩, h5, hpf, h6, h7⟩ <;> first | omega | exact hp hpf)
          go_wp2_with fail
          go_ret
          first
            | exact ⟨RN.out HNO.out, BEL.out⟩
            | (refine ⟨Eq.trans ?_ (RN.out HNO.out), BEL.out⟩; show Ending.returned (Value.bool _) = Ending.returned (Value.bool _); congr 2; simp_all)
        have HYES : Hid (rightP k v l N z nd ns nt i ph G) := Lib.hid ⟨⟨ALL.out, by rw [HN.out]; exact hg, hd, hs, ht, hv, ⟨hl0, hl1⟩, ⟨hN0, hN1⟩, by omega⟩, .inr (.inr (.inl ⟨hk3, ⟨hV, hp, hn⟩, hL, hM, hZ⟩))⟩
        go_wp2_with fail
        go_ret
        first
          | exact ⟨RY.out HYES.out, BEL.out⟩
          | (refine ⟨Eq.trans ?_ (RY.out HYES.out), BEL.out⟩; show Ending.returned (Value.bool _) = Ending.returned (Value.bool _); congr 2; simp_all)
      by_cases hk4 : k = 4
      · by_cases hV : v = 0
        rotate_left
        · have HNO : Hid (¬ rightP k v l N z nd ns nt i ph G) := Lib.hid (by
            rintro ⟨⟨b0, b1, b2, b3, b4, b5, b6, b7, b8⟩, hf⟩
            unfold word32 at b5
            have hnn := HN.out
            unfold inF at hf
            rcases hf with ⟨h1, ⟨h2, hpf, h3⟩, h4⟩ | ⟨h1, ⟨h2, hpf, h3⟩, h4, h5⟩ | ⟨h1, ⟨h2, hpf, h3⟩, h4, h5, h6⟩ | ⟨h1, h2, h3, h4, h5, h6, h7⟩ | ⟨h1, ⟨h2, h3, h4⟩, h5, hpf, h6, h7⟩ <;> first | omega | exact hp hpf)
          go_wp2_with fail
          go_ret
          first
            | exact ⟨RN.out HNO.out, BEL.out⟩
            | (refine ⟨Eq.trans ?_ (RN.out HNO.out), BEL.out⟩; show Ending.returned (Value.bool _) = Ending.returned (Value.bool _); congr 2; simp_all)
        by_cases hL : l = 0
        rotate_left
        · have HNO : Hid (¬ rightP k v l N z nd ns nt i ph G) := Lib.hid (by
            rintro ⟨⟨b0, b1, b2, b3, b4, b5, b6, b7, b8⟩, hf⟩
            unfold word32 at b5
            have hnn := HN.out
            unfold inF at hf
            rcases hf with ⟨h1, ⟨h2, hpf, h3⟩, h4⟩ | ⟨h1, ⟨h2, hpf, h3⟩, h4, h5⟩ | ⟨h1, ⟨h2, hpf, h3⟩, h4, h5, h6⟩ | ⟨h1, h2, h3, h4, h5, h6, h7⟩ | ⟨h1, ⟨h2, h3, h4⟩, h5, hpf, h6, h7⟩ <;> first | omega | exact hp hpf)
          go_wp2_with fail
          go_ret
          first
            | exact ⟨RN.out HNO.out, BEL.out⟩
            | (refine ⟨Eq.trans ?_ (RN.out HNO.out), BEL.out⟩; show Ending.returned (Value.bool _) = Ending.returned (Value.bool _); congr 2; simp_all)
        by_cases hS : ns = 0
        rotate_left
        · have eS2 : S.toList.isEmpty = false := by rw [eS]; simpa using hS
          have HNO : Hid (¬ rightP k v l N z nd ns nt i ph G) := Lib.hid (by
            rintro ⟨⟨b0, b1, b2, b3, b4, b5, b6, b7, b8⟩, hf⟩
            unfold word32 at b5
            have hnn := HN.out
            unfold inF at hf
            rcases hf with ⟨h1, ⟨h2, hpf, h3⟩, h4⟩ | ⟨h1, ⟨h2, hpf, h3⟩, h4, h5⟩ | ⟨h1, ⟨h2, hpf, h3⟩, h4, h5, h6⟩ | ⟨h1, h2, h3, h4, h5, h6, h7⟩ | ⟨h1, ⟨h2, h3, h4⟩, h5, hpf, h6, h7⟩ <;> first | omega | exact hp hpf)
          go_wp2_with fail
          go_ret
          first
            | exact ⟨RN.out HNO.out, BEL.out⟩
            | (refine ⟨Eq.trans ?_ (RN.out HNO.out), BEL.out⟩; show Ending.returned (Value.bool _) = Ending.returned (Value.bool _); congr 2; simp_all)
        have eS2 : S.toList.isEmpty = true := by rw [eS]; simpa using hS
        by_cases hT : nt = 0
        rotate_left
        · have eT2 : T.toList.isEmpty = false := by rw [eT]; simpa using hT
          have HNO : Hid (¬ rightP k v l N z nd ns nt i ph G) := Lib.hid (by
            rintro ⟨⟨b0, b1, b2, b3, b4, b5, b6, b7, b8⟩, hf⟩
            unfold word32 at b5
            have hnn := HN.out
            unfold inF at hf
            rcases hf with ⟨h1, ⟨h2, hpf, h3⟩, h4⟩ | ⟨h1, ⟨h2, hpf, h3⟩, h4, h5⟩ | ⟨h1, ⟨h2, hpf, h3⟩, h4, h5, h6⟩ | ⟨h1, h2, h3, h4, h5, h6, h7⟩ | ⟨h1, ⟨h2, h3, h4⟩, h5, hpf, h6, h7⟩ <;> first | omega | exact hp hpf)
          go_wp2_with fail
          go_ret
          first
            | exact ⟨RN.out HNO.out, BEL.out⟩
            | (refine ⟨Eq.trans ?_ (RN.out HNO.out), BEL.out⟩; show Ending.returned (Value.bool _) = Ending.returned (Value.bool _); congr 2; simp_all)
        have eT2 : T.toList.isEmpty = true := by rw [eT]; simpa using hT
        by_cases hn : i = 0
        rotate_left
        · have HNO : Hid (¬ rightP k v l N z nd ns nt i ph G) := Lib.hid (by
            rintro ⟨⟨b0, b1, b2, b3, b4, b5, b6, b7, b8⟩, hf⟩
            unfold word32 at b5
            have hnn := HN.out
            unfold inF at hf
            rcases hf with ⟨h1, ⟨h2, hpf, h3⟩, h4⟩ | ⟨h1, ⟨h2, hpf, h3⟩, h4, h5⟩ | ⟨h1, ⟨h2, hpf, h3⟩, h4, h5, h6⟩ | ⟨h1, h2, h3, h4, h5, h6, h7⟩ | ⟨h1, ⟨h2, h3, h4⟩, h5, hpf, h6, h7⟩ <;> first | omega | exact hp hpf)
          go_wp2_with fail
          go_ret
          first
            | exact ⟨RN.out HNO.out, BEL.out⟩
            | (refine ⟨Eq.trans ?_ (RN.out HNO.out), BEL.out⟩; show Ending.returned (Value.bool _) = Ending.returned (Value.bool _); congr 2; simp_all)
        by_cases hz1 : 1 ≤ z
        rotate_left
        · have hzb : z < 1 := by omega
          have HNO : Hid (¬ rightP k v l N z nd ns nt i ph G) := Lib.hid (by
            rintro ⟨⟨b0, b1, b2, b3, b4, b5, b6, b7, b8⟩, hf⟩
            unfold word32 at b5
            have hnn := HN.out
            unfold inF at hf
            rcases hf with ⟨h1, ⟨h2, hpf, h3⟩, h4⟩ | ⟨h1, ⟨h2, hpf, h3⟩, h4, h5⟩ | ⟨h1, ⟨h2, hpf, h3⟩, h4, h5, h6⟩ | ⟨h1, h2, h3, h4, h5, h6, h7⟩ | ⟨h1, ⟨h2, h3, h4⟩, h5, hpf, h6, h7⟩ <;> first | omega | exact hp hpf)
          go_wp2_with fail
          go_ret
          first
            | exact ⟨RN.out HNO.out, BEL.out⟩
            | (refine ⟨Eq.trans ?_ (RN.out HNO.out), BEL.out⟩; show Ending.returned (Value.bool _) = Ending.returned (Value.bool _); congr 2; simp_all)
        by_cases hz4 : z ≤ 4
        rotate_left
        · have hzb : 4 < z := by omega
          have HNO : Hid (¬ rightP k v l N z nd ns nt i ph G) := Lib.hid (by
            rintro ⟨⟨b0, b1, b2, b3, b4, b5, b6, b7, b8⟩, hf⟩
            unfold word32 at b5
            have hnn := HN.out
            unfold inF at hf
            rcases hf with ⟨h1, ⟨h2, hpf, h3⟩, h4⟩ | ⟨h1, ⟨h2, hpf, h3⟩, h4, h5⟩ | ⟨h1, ⟨h2, hpf, h3⟩, h4, h5, h6⟩ | ⟨h1, h2, h3, h4, h5, h6, h7⟩ | ⟨h1, ⟨h2, h3, h4⟩, h5, hpf, h6, h7⟩ <;> first | omega | exact hp hpf)
          go_wp2_with fail
          go_ret
          first
            | exact ⟨RN.out HNO.out, BEL.out⟩
            | (refine ⟨Eq.trans ?_ (RN.out HNO.out), BEL.out⟩; show Ending.returned (Value.bool _) = Ending.returned (Value.bool _); congr 2; simp_all)
        have HYES : Hid (rightP k v l N z nd ns nt i ph G) := Lib.hid ⟨⟨ALL.out, by rw [HN.out]; exact hg, hd, hs, ht, hv, ⟨hl0, hl1⟩, ⟨hN0, hN1⟩, by omega⟩, .inr (.inr (.inr (.inl ⟨hk4, by omega, hV, hL, hS, hT, hn⟩)))⟩
        go_wp2_with fail
        go_ret
        first
          | exact ⟨RY.out HYES.out, BEL.out⟩
          | (refine ⟨Eq.trans ?_ (RY.out HYES.out), BEL.out⟩; show Ending.returned (Value.bool _) = Ending.returned (Value.bool _); congr 2; simp_all)
      by_cases hk5 : k = 5
      · by_cases hV : v = 0
        rotate_left
        · have HNO : Hid (¬ rightP k v l N z nd ns nt i ph G) := Lib.hid (by
            rintro ⟨⟨b0, b1, b2, b3, b4, b5, b6, b7, b8⟩, hf⟩
            unfold word32 at b5
            have hnn := HN.out
            unfold inF at hf
            rcases hf with ⟨h1, ⟨h2, hpf, h3⟩, h4⟩ | ⟨h1, ⟨h2, hpf, h3⟩, h4, h5⟩ | ⟨h1, ⟨h2, hpf, h3⟩, h4, h5, h6⟩ | ⟨h1, h2, h3, h4, h5, h6, h7⟩ | ⟨h1, ⟨h2, h3, h4⟩, h5, hpf, h6, h7⟩ <;> first | omega | exact hp hpf)
          go_wp2_with fail
          go_ret
          first
            | exact ⟨RN.out HNO.out, BEL.out⟩
            | (refine ⟨Eq.trans ?_ (RN.out HNO.out), BEL.out⟩; show Ending.returned (Value.bool _) = Ending.returned (Value.bool _); congr 2; simp_all)
        by_cases hL : l = 0
        rotate_left
        · have HNO : Hid (¬ rightP k v l N z nd ns nt i ph G) := Lib.hid (by
            rintro ⟨⟨b0, b1, b2, b3, b4, b5, b6, b7, b8⟩, hf⟩
            unfold word32 at b5
            have hnn := HN.out
            unfold inF at hf
            rcases hf with ⟨h1, ⟨h2, hpf, h3⟩, h4⟩ | ⟨h1, ⟨h2, hpf, h3⟩, h4, h5⟩ | ⟨h1, ⟨h2, hpf, h3⟩, h4, h5, h6⟩ | ⟨h1, h2, h3, h4, h5, h6, h7⟩ | ⟨h1, ⟨h2, h3, h4⟩, h5, hpf, h6, h7⟩ <;> first | omega | exact hp hpf)
          go_wp2_with fail
          go_ret
          first
            | exact ⟨RN.out HNO.out, BEL.out⟩
            | (refine ⟨Eq.trans ?_ (RN.out HNO.out), BEL.out⟩; show Ending.returned (Value.bool _) = Ending.returned (Value.bool _); congr 2; simp_all)
        by_cases hM : N = 0
        rotate_left
        · have HNO : Hid (¬ rightP k v l N z nd ns nt i ph G) := Lib.hid (by
            rintro ⟨⟨b0, b1, b2, b3, b4, b5, b6, b7, b8⟩, hf⟩
            unfold word32 at b5
            have hnn := HN.out
            unfold inF at hf
            rcases hf with ⟨h1, ⟨h2, hpf, h3⟩, h4⟩ | ⟨h1, ⟨h2, hpf, h3⟩, h4, h5⟩ | ⟨h1, ⟨h2, hpf, h3⟩, h4, h5, h6⟩ | ⟨h1, h2, h3, h4, h5, h6, h7⟩ | ⟨h1, ⟨h2, h3, h4⟩, h5, hpf, h6, h7⟩ <;> first | omega | exact hp hpf)
          go_wp2_with fail
          go_ret
          first
            | exact ⟨RN.out HNO.out, BEL.out⟩
            | (refine ⟨Eq.trans ?_ (RN.out HNO.out), BEL.out⟩; show Ending.returned (Value.bool _) = Ending.returned (Value.bool _); congr 2; simp_all)
        by_cases hZ : z = 0
        rotate_left
        · have HNO : Hid (¬ rightP k v l N z nd ns nt i ph G) := Lib.hid (by
            rintro ⟨⟨b0, b1, b2, b3, b4, b5, b6, b7, b8⟩, hf⟩
            unfold word32 at b5
            have hnn := HN.out
            unfold inF at hf
            rcases hf with ⟨h1, ⟨h2, hpf, h3⟩, h4⟩ | ⟨h1, ⟨h2, hpf, h3⟩, h4, h5⟩ | ⟨h1, ⟨h2, hpf, h3⟩, h4, h5, h6⟩ | ⟨h1, h2, h3, h4, h5, h6, h7⟩ | ⟨h1, ⟨h2, h3, h4⟩, h5, hpf, h6, h7⟩ <;> first | omega | exact hp hpf)
          go_wp2_with fail
          go_ret
          first
            | exact ⟨RN.out HNO.out, BEL.out⟩
            | (refine ⟨Eq.trans ?_ (RN.out HNO.out), BEL.out⟩; show Ending.returned (Value.bool _) = Ending.returned (Value.bool _); congr 2; simp_all)
        by_cases hp : ph = false
        rotate_left
        · have hp2 : ph = true := by simpa using hp
          have HNO : Hid (¬ rightP k v l N z nd ns nt i ph G) := Lib.hid (by
            rintro ⟨⟨b0, b1, b2, b3, b4, b5, b6, b7, b8⟩, hf⟩
            unfold word32 at b5
            have hnn := HN.out
            unfold inF at hf
            rcases hf with ⟨h1, ⟨h2, hpf, h3⟩, h4⟩ | ⟨h1, ⟨h2, hpf, h3⟩, h4, h5⟩ | ⟨h1, ⟨h2, hpf, h3⟩, h4, h5, h6⟩ | ⟨h1, h2, h3, h4, h5, h6, h7⟩ | ⟨h1, ⟨h2, h3, h4⟩, h5, hpf, h6, h7⟩ <;> first | omega | exact hp hpf)
          go_wp2_with fail
          go_ret
          first
            | exact ⟨RN.out HNO.out, BEL.out⟩
            | (refine ⟨Eq.trans ?_ (RN.out HNO.out), BEL.out⟩; show Ending.returned (Value.bool _) = Ending.returned (Value.bool _); congr 2; simp_all)
        by_cases hT : nt = 0
        rotate_left
        · have eT2 : T.toList.isEmpty = false := by rw [eT]; simpa using hT
          have HNO : Hid (¬ rightP k v l N z nd ns nt i ph G) := Lib.hid (by
            rintro ⟨⟨b0, b1, b2, b3, b4, b5, b6, b7, b8⟩, hf⟩
            unfold word32 at b5
            have hnn := HN.out
            unfold inF at hf
            rcases hf with ⟨h1, ⟨h2, hpf, h3⟩, h4⟩ | ⟨h1, ⟨h2, hpf, h3⟩, h4, h5⟩ | ⟨h1, ⟨h2, hpf, h3⟩, h4, h5, h6⟩ | ⟨h1, h2, h3, h4, h5, h6, h7⟩ | ⟨h1, ⟨h2, h3, h4⟩, h5, hpf, h6, h7⟩ <;> first | omega | exact hp hpf)
          go_wp2_with fail
          go_ret
          first
            | exact ⟨RN.out HNO.out, BEL.out⟩
            | (refine ⟨Eq.trans ?_ (RN.out HNO.out), BEL.out⟩; show Ending.returned (Value.bool _) = Ending.returned (Value.bool _); congr 2; simp_all)
        have eT2 : T.toList.isEmpty = true := by rw [eT]; simpa using hT
        by_cases hn : 0 < i
        rotate_left
        · have hn2 : i = 0 := by omega
          have HNO : Hid (¬ rightP k v l N z nd ns nt i ph G) := Lib.hid (by
            rintro ⟨⟨b0, b1, b2, b3, b4, b5, b6, b7, b8⟩, hf⟩
            unfold word32 at b5
            have hnn := HN.out
            unfold inF at hf
            rcases hf with ⟨h1, ⟨h2, hpf, h3⟩, h4⟩ | ⟨h1, ⟨h2, hpf, h3⟩, h4, h5⟩ | ⟨h1, ⟨h2, hpf, h3⟩, h4, h5, h6⟩ | ⟨h1, h2, h3, h4, h5, h6, h7⟩ | ⟨h1, ⟨h2, h3, h4⟩, h5, hpf, h6, h7⟩ <;> first | omega | exact hp hpf)
          go_wp2_with fail
          go_ret
          first
            | exact ⟨RN.out HNO.out, BEL.out⟩
            | (refine ⟨Eq.trans ?_ (RN.out HNO.out), BEL.out⟩; show Ending.returned (Value.bool _) = Ending.returned (Value.bool _); congr 2; simp_all)
        have hnI : (0 : Int) < (i : Int) := by omega
        have HYES : Hid (rightP k v l N z nd ns nt i ph G) := Lib.hid ⟨⟨ALL.out, by rw [HN.out]; exact hg, hd, hs, ht, hv, ⟨hl0, hl1⟩, ⟨hN0, hN1⟩, by omega⟩, .inr (.inr (.inr (.inr ⟨hk5, ⟨hL, hM, hZ⟩, hV, hp, hT, by omega⟩)))⟩
        go_wp2_with fail
        go_ret
        first
          | exact ⟨RY.out HYES.out, BEL.out⟩
          | (refine ⟨Eq.trans ?_ (RY.out HYES.out), BEL.out⟩; show Ending.returned (Value.bool _) = Ending.returned (Value.bool _); congr 2; simp_all)
      have HNO : Hid (¬ rightP k v l N z nd ns nt i ph G) := Lib.hid (by
        rintro ⟨⟨b0, b1, b2, b3, b4, b5, b6, b7, b8⟩, hf⟩
        unfold word32 at b5
        have hnn := HN.out
        unfold inF at hf
        rcases hf with ⟨h1, ⟨h2, hpf, h3⟩, h4⟩ | ⟨h1, ⟨h2, hpf, h3⟩, h4, h5⟩ | ⟨h1, ⟨h2, hpf, h3⟩, h4, h5, h6⟩ | ⟨h1, h2, h3, h4, h5, h6, h7⟩ | ⟨h1, ⟨h2, h3, h4⟩, h5, hpf, h6, h7⟩ <;> first | omega | exact hp hpf)
      go_wp2_with fail
      go_ret
      first
        | exact ⟨RN.out HNO.out, BEL.out⟩
        | (refine ⟨Eq.trans ?_ (RN.out HNO.out), BEL.out⟩; show Ending.returned (Value.bool _) = Ending.returned (Value.bool _); congr 2; simp_all)
end Go.Proofs.YtcgbhcmgddgheaaDoor
