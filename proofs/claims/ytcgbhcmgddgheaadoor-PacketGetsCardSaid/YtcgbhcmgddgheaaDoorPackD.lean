/-
  THE CALLS OF PACKAGE packet: whether any header's parts keep to their limits.
-/
import Derived.Test.YtcgbhcmgddgheaaDoorPackC
namespace Go.Proofs.YtcgbhcmgddgheaaDoor
open Go Go.RowKit Go.BigFrame
set_option linter.unusedSimpArgs false
set_option linter.unusedVariables false
set_option maxHeartbeats 1000000 in
theorem within_no (n most : Int) (h : ¬ (0 ≤ n ∧ n ≤ most)) (w : World) : Calls Tryd.prog 66 #[.int .i64 n, .int .i64 most] w fun e w' => e = .returned (.bool false) ∧ w = w' := by
  by_cases h0 : 0 ≤ n
  · have h1 : ¬ n ≤ most := fun h2 => h ⟨h0, h2⟩
    clear h
    go_enter Tryd.func66, Tryd.ntmps66
    go_wp2_with fail
    go_ret
    exact ⟨by first | rfl | simp [h1], rfl⟩
  · clear h
    go_enter Tryd.func66, Tryd.ntmps66
    go_wp2_with fail
    go_ret
    exact ⟨rfl, rfl⟩
/-- Numbers that lie somewhere, as a slice. -/
structure IntsIn (w : World) (L : Value) (G : List Int) : Prop where
  at_ : ∃ a c, L = .slice a G.length c ∧ (G.length ≤ c ∧ c ≤ maxLen) ∧ ∀ (i : Nat) (hi : i < G.length), ∃ b o, a = some ⟨b, o, none⟩ ∧ b < w.heap.size ∧ w.cell? ⟨b, o + i, none⟩ = some (.int .i64 G[i])
theorem IntsIn.later {w w' : World} {L : Value} {G : List Int} (h : IntsIn w L G) (hb : Below w.heap.size w w') : IntsIn w' L G := by
  obtain ⟨a, c, e, hc, hat⟩ := h.at_
  refine ⟨a, c, e, hc, fun i hi => ?_⟩
  obtain ⟨b, o, ea, hl, hcell⟩ := hat i hi
  exact ⟨b, o, ea, Nat.lt_of_lt_of_le hl hb.size, by rw [hb.cell (p := ⟨b, o + i, none⟩) hl]; exact hcell⟩
/-- A header's cells. -/
def hdC (k v : Int) (D S T : ByteArray) (l N z : Int) (ph : Bool) (L : Value) : Array Value := #[.int .i64 k, .int .i64 v, .string D, .string S, .string T, .int .i64 l, .int .i64 N, .int .i64 z, .bool ph, L]
def word32 (x : Int) : Prop := 0 ≤ x ∧ x ≤ 4294967295
instance (x : Int) : Decidable (word32 x) := by unfold word32; infer_instance
/-- Does each part keep to its limits? -/
def inB (G : List Int) (nd ns nt : Nat) (v l N z : Int) : Prop := (∀ x ∈ G, word32 x) ∧ G.length ≤ 16 ∧ nd ≤ 20 ∧ ns ≤ 20 ∧ nt ≤ 512 ∧ word32 v ∧ (0 ≤ l ∧ l ≤ 16383) ∧ (0 ≤ N ∧ N ≤ 4611686018427387903) ∧ (0 ≤ z ∧ z ≤ 4)
instance (G : List Int) (nd ns nt : Nat) (v l N z : Int) : Decidable (inB G nd ns nt v l N z) := by unfold inB; infer_instance
theorem ret_no {P : Prop} [Decidable P] (h : ¬ P) : Ending.returned (.bool false) = .returned (.bool (decide P)) := by rw [decide_eq_false h]
theorem ret_yes {P : Prop} [Decidable P] (h : P) : Ending.returned (.bool true) = .returned (.bool (decide P)) := by rw [decide_eq_true h]
theorem cells10 {w : World} {B : Nat} {T : TypeId} {x0 x1 x2 x3 x4 x5 x6 x7 x8 x9 : Value} (h : w.heap[B]? = some (.cells #[x0, x1, x2, x3, x4, x5, x6, x7, x8, x9] T (0, 0))) :
    w.cell? ⟨B, 0, none⟩ = some x0 ∧ w.cell? ⟨B, 1, none⟩ = some x1 ∧ w.cell? ⟨B, 2, none⟩ = some x2 ∧ w.cell? ⟨B, 3, none⟩ = some x3 ∧ w.cell? ⟨B, 4, none⟩ = some x4 ∧ w.cell? ⟨B, 5, none⟩ = some x5 ∧ w.cell? ⟨B, 6, none⟩ = some x6 ∧ w.cell? ⟨B, 7, none⟩ = some x7 ∧ w.cell? ⟨B, 8, none⟩ = some x8 ∧ w.cell? ⟨B, 9, none⟩ = some x9 := by
  refine ⟨?_, ?_, ?_, ?_, ?_, ?_, ?_, ?_, ?_, ?_⟩ <;> rw [cell_of_row _ _ _ _ _ _ h] <;> rfl
set_option maxHeartbeats 8000000 in
set_option maxRecDepth 100000 in
theorem inBounds_any (k v l N z : Int) (D S T : ByteArray) (nd ns nt : Nat) (hD : D.size = nd) (hS : S.size = ns) (hT : T.size = nt) (ph : Bool) (L : Value) (G : List Int) (w : World) (hL : IntsIn w L G) :
    Calls Tryd.prog 58 #[.agg (hdC k v D S T l N z ph L)] w fun e w' => e = .returned (.bool (decide (inB G nd ns nt v l N z))) ∧ Below w.heap.size w w' := by
  obtain ⟨a, c, rfl, hc, hat⟩ := hL.at_
  have HAT := Lib.hid hat
  obtain ⟨n, hn⟩ : ∃ n, G.length = n := ⟨_, rfl⟩
  have HN := Lib.hid hn
  have hn63 : n ≤ 9223372036854775807 := by have := hc.1; have := hc.2; unfold maxLen at *; omega
  have GI := Lib.hid (fun (i : Nat) (hi : i < n) => (⟨G[i]'(by omega), rfl, List.getElem_mem _⟩ : ∃ y, G[i]'(by omega) = y ∧ y ∈ G))
  have GA := Lib.hid (fun (x : Int) (hx : x ∈ G) => (List.getElem_of_mem hx))
  obtain ⟨B, hB⟩ : ∃ B, decide (inB G nd ns nt v l N z) = B := ⟨_, rfl⟩
  have RN := Lib.hid (fun (h : ¬ inB G nd ns nt v l N z) => (ret_no h).trans (by rw [hB]))
  have RY := Lib.hid (fun (h : inB G nd ns nt v l N z) => (ret_yes h).trans (by rw [hB]))
  rw [hB]
  clear hat hL hB hc
  unfold hdC
  rw [hn]
  go_enter Tryd.func58, Tryd.ntmps58
  have row := heap_alloc_last w (.cells #[.int .i64 k, .int .i64 v, .string D, .string S, .string T, .int .i64 l, .int .i64 N, .int .i64 z, .bool ph, .slice a n c] 66)
  have bel := (Below.refl w.heap.size w).alloc (Nat.le_refl _) (.cells #[.int .i64 k, .int .i64 v, .string D, .string S, .string T, .int .i64 l, .int .i64 N, .int .i64 z, .bool ph, .slice a n c] 66)
  go_upto_region 1 with (fail)
  generalize w.alloc _ = wa at *
  obtain ⟨c0, c1, c2, c3, c4, c5, c6, c7, c8, c9⟩ := cells10 row
  have BEL := Lib.hid bel
  clear row bel
  go_wp2_with fail
  go_loopw [8] (fun s8 wr => ∃ i : Nat, i ≤ n ∧ s8 = .int .i64 (i : Int) ∧ (∀ j, ∀ hj : j < i, word32 (G.getD j 0)) ∧ wr = wa) (fun s8 _ => n - (intOf s8).toNat)
  case atStart => exact ⟨0, by omega, rfl, fun j hj => by omega, rfl⟩
  case round =>
    obtain ⟨i, hi, rfl, hw, rfl⟩ := hrel
    have HW := Lib.hid hw
    clear hw
    by_cases hin : i < n
    · have hinI : (i : Int) < (n : Int) := by omega
      obtain ⟨b, o, rfl, hbl, hcell⟩ := HAT.out i (by rw [HN.out]; exact hin)
      have hcell2 := (BEL.out.cell (p := ⟨b, o + i, none⟩) hbl).trans hcell
      obtain ⟨y, hy, hmem⟩ := GI.out i hin
      rw [hy] at hcell2
      have hyD : G.getD i 0 = y := by rw [List.getD_eq_getElem?_getD, List.getElem?_eq_getElem (by rw [HN.out]; exact hin)]; exact hy
      have HY := Lib.hid hyD
      have HM := Lib.hid hmem
      clear hcell hy hyD hmem hbl
      by_cases hy32 : 0 ≤ y ∧ y ≤ 4294967295
      · obtain ⟨h0, h1⟩ := hy32
        go_wp2_with (go_at_call 66; with_reducible refine (within_yes _ _ h0 h1 _).mono ?_; rintro e w' ⟨rfl, rfl⟩)
        go_roundw
        case rel => exact ⟨i + 1, by omega, by go_num, fun j hj => by
          by_cases hji : j < i
          · exact HW.out j hji
          · obtain rfl : j = i := by omega
            rw [HY.out]; exact ⟨h0, h1⟩, trivial⟩
        case measure => simp [intOf]; omega
      · have HNO := Lib.hid (fun h : inB G nd ns nt v l N z => hy32 (h.1 y HM.out))
        go_wp2_with (go_at_call 66; with_reducible refine (within_no _ _ hy32 _).mono ?_; rintro e w' ⟨rfl, rfl⟩)
        go_ret
        exact ⟨RN.out HNO.out, BEL.out⟩
    · obtain rfl : i = n := by omega
      have ALL : Hid (∀ x ∈ G, word32 x) := Lib.hid (fun x hx => by
        obtain ⟨j, hj, rfl⟩ := GA.out x hx
        have := HW.out j (by rw [← HN.out]; exact hj)
        rw [List.getD_eq_getElem?_getD, List.getElem?_eq_getElem hj] at this
        exact this)
      clear HW GI GA HAT
      by_cases hG : i ≤ 16
      rotate_left
      · have HNO := Lib.hid (fun h : inB G nd ns nt v l N z => hG (by have := h.2.1; rw [HN.out] at this; exact this))
        have hI : ¬ (i : Int) ≤ 16 := by omega
        go_wp2_with fail
        go_ret
        exact ⟨RN.out HNO.out, BEL.out⟩
      by_cases hd : nd ≤ 20
      rotate_left
      · have HNO := Lib.hid (fun h : inB G nd ns nt v l N z => hd (h.2.2.1))
        have hI : ¬ (nd : Int) ≤ 20 := by omega
        have hIG : (i : Int) ≤ 16 := by omega
        go_wp2_with fail
        go_ret
        exact ⟨RN.out HNO.out, BEL.out⟩
      by_cases hs : ns ≤ 20
      rotate_left
      · have HNO := Lib.hid (fun h : inB G nd ns nt v l N z => hs (h.2.2.2.1))
        have hI : ¬ (ns : Int) ≤ 20 := by omega
        have hIG : (i : Int) ≤ 16 := by omega
        have hId : (nd : Int) ≤ 20 := by omega
        go_wp2_with fail
        go_ret
        exact ⟨RN.out HNO.out, BEL.out⟩
      by_cases ht : nt ≤ 512
      rotate_left
      · have HNO := Lib.hid (fun h : inB G nd ns nt v l N z => ht (h.2.2.2.2.1))
        have hI : ¬ (nt : Int) ≤ 512 := by omega
        have hIG : (i : Int) ≤ 16 := by omega
        have hId : (nd : Int) ≤ 20 := by omega
        have hIs : (ns : Int) ≤ 20 := by omega
        go_wp2_with fail
        go_ret
        exact ⟨RN.out HNO.out, BEL.out⟩
      by_cases hv : 0 ≤ v ∧ v ≤ 4294967295
      rotate_left
      · have HNO := Lib.hid (fun h : inB G nd ns nt v l N z => hv (h.2.2.2.2.2.1))
        have hIG : (i : Int) ≤ 16 := by omega
        have hId : (nd : Int) ≤ 20 := by omega
        have hIs : (ns : Int) ≤ 20 := by omega
        have hIt : (nt : Int) ≤ 512 := by omega
        go_wp2_with (first | (go_at_call 66; with_reducible refine (within_no _ _ hv _).mono ?_; rintro e w' ⟨rfl, rfl⟩) | fail)
        go_ret
        exact ⟨RN.out HNO.out, BEL.out⟩
      by_cases hl : 0 ≤ l ∧ l ≤ 16383
      rotate_left
      · have HNO := Lib.hid (fun h : inB G nd ns nt v l N z => hl (h.2.2.2.2.2.2.1))
        have hIG : (i : Int) ≤ 16 := by omega
        have hId : (nd : Int) ≤ 20 := by omega
        have hIs : (ns : Int) ≤ 20 := by omega
        have hIt : (nt : Int) ≤ 512 := by omega
        go_wp2_with (first | (go_at_call 66; with_reducible refine (within_yes _ _ hv.1 hv.2 _).mono ?_; rintro e w' ⟨rfl, rfl⟩) | (go_at_call 66; with_reducible refine (within_no _ _ hl _).mono ?_; rintro e w' ⟨rfl, rfl⟩) | fail)
        go_ret
        exact ⟨RN.out HNO.out, BEL.out⟩
      by_cases hN : 0 ≤ N ∧ N ≤ 4611686018427387903
      rotate_left
      · have HNO := Lib.hid (fun h : inB G nd ns nt v l N z => hN (h.2.2.2.2.2.2.2.1))
        have hIG : (i : Int) ≤ 16 := by omega
        have hId : (nd : Int) ≤ 20 := by omega
        have hIs : (ns : Int) ≤ 20 := by omega
        have hIt : (nt : Int) ≤ 512 := by omega
        go_wp2_with (first | (go_at_call 66; with_reducible refine (within_yes _ _ hv.1 hv.2 _).mono ?_; rintro e w' ⟨rfl, rfl⟩) | (go_at_call 66; with_reducible refine (within_yes _ _ hl.1 hl.2 _).mono ?_; rintro e w' ⟨rfl, rfl⟩) | (go_at_call 66; with_reducible refine (within_no _ _ hN _).mono ?_; rintro e w' ⟨rfl, rfl⟩) | fail)
        go_ret
        exact ⟨RN.out HNO.out, BEL.out⟩
      by_cases hz : 0 ≤ z ∧ z ≤ 4
      rotate_left
      · have HNO := Lib.hid (fun h : inB G nd ns nt v l N z => hz (h.2.2.2.2.2.2.2.2))
        have hIG : (i : Int) ≤ 16 := by omega
        have hId : (nd : Int) ≤ 20 := by omega
        have hIs : (ns : Int) ≤ 20 := by omega
        have hIt : (nt : Int) ≤ 512 := by omega
        go_wp2_with (first | (go_at_call 66; with_reducible refine (within_yes _ _ hv.1 hv.2 _).mono ?_; rintro e w' ⟨rfl, rfl⟩) | (go_at_call 66; with_reducible refine (within_yes _ _ hl.1 hl.2 _).mono ?_; rintro e w' ⟨rfl, rfl⟩) | (go_at_call 66; with_reducible refine (within_yes _ _ hN.1 hN.2 _).mono ?_; rintro e w' ⟨rfl, rfl⟩) | (go_at_call 66; with_reducible refine (within_no _ _ hz _).mono ?_; rintro e w' ⟨rfl, rfl⟩) | fail)
        go_ret
        exact ⟨RN.out HNO.out, BEL.out⟩
      have hIG : (i : Int) ≤ 16 := by omega
      have hId : (nd : Int) ≤ 20 := by omega
      have hIs : (ns : Int) ≤ 20 := by omega
      have hIt : (nt : Int) ≤ 512 := by omega
      have HYES : Hid (inB G nd ns nt v l N z) := Lib.hid ⟨ALL.out, by rw [HN.out]; exact hG, hd, hs, ht, hv, hl, hN, hz⟩
      go_wp2_with (first | (go_at_call 66; with_reducible refine (within_yes _ _ hv.1 hv.2 _).mono ?_; rintro e w' ⟨rfl, rfl⟩) | (go_at_call 66; with_reducible refine (within_yes _ _ hl.1 hl.2 _).mono ?_; rintro e w' ⟨rfl, rfl⟩) | (go_at_call 66; with_reducible refine (within_yes _ _ hN.1 hN.2 _).mono ?_; rintro e w' ⟨rfl, rfl⟩) | (go_at_call 66; with_reducible refine (within_yes _ _ hz.1 hz.2 _).mono ?_; rintro e w' ⟨rfl, rfl⟩) | fail)
      go_ret
      exact ⟨RY.out HYES.out, BEL.out⟩
end Go.Proofs.YtcgbhcmgddgheaaDoor
