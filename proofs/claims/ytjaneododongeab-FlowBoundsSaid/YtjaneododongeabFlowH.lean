/-
  THE DOCUMENT's Leave.
-/
import Derived.Test.YtjaneododongeabFlowG
namespace Go.Proofs.Ytjaneododongeab
open Go Go.RowKit Go.BigFrame Go.Maps Go.WideElems Go.ChangeMaps Go.MapKept Go.WideShapes
set_option linter.unusedSimpArgs false
set_option linter.unusedVariables false
theorem gone_cells {w : World} {B : Nat} {v : Value} {G : List Int} (h : w.ownsRow B 3 1 v G.length (intsL G)) : ∃ a cap, v = .slice a G.length cap ∧ ∀ i (hi : i < G.length), ∃ g, a = some ⟨g, 0, none⟩ ∧ w.cell? ⟨g, i, none⟩ = some (.int .i64 G[i]) := by
  obtain ⟨a, cap, rfl, r⟩ := own_cells h
  refine ⟨a, cap, rfl, fun i hi => ?_⟩
  rcases r with r | ⟨g, rfl, _, _, k⟩
  · omega
  · refine ⟨g, rfl, ?_⟩
    have k1 := k i hi
    rw [Nat.zero_add] at k1
    rw [k1, intsL_at, List.getElem?_eq_getElem hi]; rfl
theorem intsL_snoc (G : List Int) (x : Int) : intsL (G ++ [x]) = intsL G ++ [.int .i64 x] := by simp [intsL]
set_option maxHeartbeats 4000000 in
theorem rl_miss1 (b base : Nat) (v : Value) (d : RNums) (G : List Int) (id : Int) (hG : G.length ≤ 1099511627776) (h1 : id < 0)
    (w : World) (h : w.heap[b]? = some (.cells (rdC v d) RD (0, 0))) (ho : w.ownsRow base 3 1 v G.length (intsL G)) :
    Calls Try.prog 30 #[.pointer (some ⟨b, 0, none⟩), .int .i64 id] w fun e w' => e = .returned (.int .i64 8) ∧ w = w' := by
  obtain ⟨a, cap, rfl, hc⟩ := gone_cells ho
  obtain ⟨c0, c1, c2, c3, c4, c5, c6, c7⟩ := rd_cells h
  have hl := own_le d.srv
  have HC := Lib.hid hc
  have HH := Lib.hid h
  clear hc ho h
  have hd0 : decide (id < 0) = true := decide_eq_true h1
  go_enter Try.func30, Try.ntmps30
  go_wp2_with fail
  go_ret
  exact ⟨rfl, rfl⟩
set_option maxHeartbeats 4000000 in
theorem rl_miss2 (b base : Nat) (v : Value) (d : RNums) (G : List Int) (id : Int) (hG : G.length ≤ 1099511627776) (h0 : 0 ≤ id) (hi9 : id ≤ 9223372036854775807) (h1 : 1 < id % 4)
    (w : World) (h : w.heap[b]? = some (.cells (rdC v d) RD (0, 0))) (ho : w.ownsRow base 3 1 v G.length (intsL G)) :
    Calls Try.prog 30 #[.pointer (some ⟨b, 0, none⟩), .int .i64 id] w fun e w' => e = .returned (.int .i64 8) ∧ w = w' := by
  obtain ⟨a, cap, rfl, hc⟩ := gone_cells ho
  obtain ⟨c0, c1, c2, c3, c4, c5, c6, c7⟩ := rd_cells h
  have hl := own_le d.srv
  have HC := Lib.hid hc
  have HH := Lib.hid h
  clear hc ho h
  have hn : ¬ id < 0 := by omega
  have hd0 : decide (id < 0) = false := decide_eq_false hn
  have hd1 : decide (1 < id % 4) = true := decide_eq_true h1
  go_enter Try.func30, Try.ntmps30
  go_wp2_with fail
  go_ret
  exact ⟨rfl, rfl⟩
set_option maxHeartbeats 4000000 in
theorem rl_miss3 (b base : Nat) (v : Value) (d : RNums) (G : List Int) (id : Int) (hG : G.length ≤ 1099511627776) (h0 : 0 ≤ id) (hi9 : id ≤ 9223372036854775807) (h1 : id % 4 = ownOf d.srv) (h2 : d.own ≤ id / 4)
    (w : World) (h : w.heap[b]? = some (.cells (rdC v d) RD (0, 0))) (ho : w.ownsRow base 3 1 v G.length (intsL G)) :
    Calls Try.prog 30 #[.pointer (some ⟨b, 0, none⟩), .int .i64 id] w fun e w' => e = .returned (.int .i64 8) ∧ w = w' := by
  obtain ⟨a, cap, rfl, hc⟩ := gone_cells ho
  obtain ⟨c0, c1, c2, c3, c4, c5, c6, c7⟩ := rd_cells h
  have hl := own_le d.srv
  have HC := Lib.hid hc
  have HH := Lib.hid h
  clear hc ho h
  have hn : ¬ id < 0 := by omega
  have hn1 : ¬ 1 < id % 4 := by omega
  have hd0 : decide (id < 0) = false := decide_eq_false hn
  have hd1 : decide (1 < id % 4) = false := decide_eq_false hn1
  have hd2 : decide (d.own ≤ id / 4) = true := decide_eq_true h2
  have H1 := Lib.hid h1
  clear h1
  go_enter Try.func30, Try.ntmps30
  go_wp2_with (go_at_call 37; refine (ref_own_t b _ d id h0 (H1.out) _ HH.out).mono ?_; rintro e w' ⟨rfl, rfl⟩)
  go_ret
  exact ⟨rfl, rfl⟩
set_option maxHeartbeats 4000000 in
theorem rl_miss4 (b base : Nat) (v : Value) (d : RNums) (G : List Int) (id : Int) (hG : G.length ≤ 1099511627776) (h0 : 0 ≤ id) (hi9 : id ≤ 9223372036854775807) (h1 : id % 4 = otherOf d.srv) (h2 : d.theirs ≤ id / 4)
    (w : World) (h : w.heap[b]? = some (.cells (rdC v d) RD (0, 0))) (ho : w.ownsRow base 3 1 v G.length (intsL G)) :
    Calls Try.prog 30 #[.pointer (some ⟨b, 0, none⟩), .int .i64 id] w fun e w' => e = .returned (.int .i64 8) ∧ w = w' := by
  obtain ⟨a, cap, rfl, hc⟩ := gone_cells ho
  obtain ⟨c0, c1, c2, c3, c4, c5, c6, c7⟩ := rd_cells h
  have hl := own_le d.srv
  have HC := Lib.hid hc
  have HH := Lib.hid h
  clear hc ho h
  have hn : ¬ id < 0 := by omega
  have hn1 : ¬ 1 < id % 4 := by omega
  have hd0 : decide (id < 0) = false := decide_eq_false hn
  have hd1 : decide (1 < id % 4) = false := decide_eq_false hn1
  have hd2 : decide (d.theirs ≤ id / 4) = true := decide_eq_true h2
  have H1 := Lib.hid h1
  clear h1
  go_enter Try.func30, Try.ntmps30
  go_wp2_with (go_at_call 37; refine (ref_own_f b _ d id h0 (H1.out) _ HH.out).mono ?_; rintro e w' ⟨rfl, rfl⟩)
  go_ret
  exact ⟨rfl, rfl⟩
set_option maxHeartbeats 4000000 in
theorem rl_miss5 (b base : Nat) (v : Value) (d : RNums) (G : List Int) (id : Int) (hG : G.length ≤ 1099511627776) (h0 : 0 ≤ id) (hi9 : id ≤ 9223372036854775807) (h1 : id % 4 = ownOf d.srv) (h2 : id / 4 < d.own) (hM : id ∈ G)
    (w : World) (h : w.heap[b]? = some (.cells (rdC v d) RD (0, 0))) (ho : w.ownsRow base 3 1 v G.length (intsL G)) :
    Calls Try.prog 30 #[.pointer (some ⟨b, 0, none⟩), .int .i64 id] w fun e w' => e = .returned (.int .i64 8) ∧ w = w' := by
  obtain ⟨a, cap, rfl, hc⟩ := gone_cells ho
  obtain ⟨c0, c1, c2, c3, c4, c5, c6, c7⟩ := rd_cells h
  have hl := own_le d.srv
  have HC := Lib.hid hc
  have HH := Lib.hid h
  clear hc ho h
  have hn : ¬ id < 0 := by omega
  have hn1 : ¬ 1 < id % 4 := by omega
  have hd0 : decide (id < 0) = false := decide_eq_false hn
  have hd1 : decide (1 < id % 4) = false := decide_eq_false hn1
  have hn2 : ¬ d.own ≤ id / 4 := by omega
  have hd2 : decide (d.own ≤ id / 4) = false := decide_eq_false hn2
  have H1 := Lib.hid h1
  have HM := Lib.hid hM
  clear h1 hM
  go_enter Try.func30, Try.ntmps30
  go_wp2_with (go_at_call 37; refine (ref_own_t b _ d id h0 (H1.out) _ HH.out).mono ?_; rintro e w' ⟨rfl, rfl⟩)
  go_loopw [5] (fun s wr => ∃ i : Nat, i ≤ G.length ∧ s = .int .i64 (i : Int) ∧ w = wr ∧ ∀ j (hj : j < G.length), j < i → G[j] ≠ id) (fun s _ => G.length - (intOf s).toNat)
  case atStart => exact ⟨0, by omega, rfl, rfl, fun j hj h => by omega⟩
  case round =>
    obtain ⟨i, hi', rfl, rfl, hall⟩ := hrel
    have HA := Lib.hid hall
    clear hall
    by_cases hlt : i < G.length
    · have hlI : (i : Int) < (G.length : Int) := by omega
      obtain ⟨g, rfl, k⟩ := HC.out i hlt
      obtain ⟨x, hx⟩ : ∃ x, G[i] = x := ⟨_, rfl⟩
      have HX := Lib.hid hx
      rw [hx] at k
      clear hx
      by_cases he : x = id
      · skip
        go_wp2_with fail
        go_ret
        exact ⟨rfl, rfl⟩
      · go_wp2_with fail
        go_roundw
        case rel => exact ⟨i + 1, by omega, by go_num, by trivial, fun j hj h => by
          by_cases e : j = i
          · subst e; rw [HX.out]; exact he
          · exact HA.out j hj (by omega)⟩
        case measure => (simp [intOf] <;> omega)
    · skip
      exfalso
      obtain ⟨j, hj, e⟩ := List.mem_iff_getElem.1 HM.out
      exact HA.out j hj (by omega) e
set_option maxHeartbeats 4000000 in
theorem rl_miss6 (b base : Nat) (v : Value) (d : RNums) (G : List Int) (id : Int) (hG : G.length ≤ 1099511627776) (h0 : 0 ≤ id) (hi9 : id ≤ 9223372036854775807) (h1 : id % 4 = otherOf d.srv) (h2 : id / 4 < d.theirs) (hM : id ∈ G)
    (w : World) (h : w.heap[b]? = some (.cells (rdC v d) RD (0, 0))) (ho : w.ownsRow base 3 1 v G.length (intsL G)) :
    Calls Try.prog 30 #[.pointer (some ⟨b, 0, none⟩), .int .i64 id] w fun e w' => e = .returned (.int .i64 8) ∧ w = w' := by
  obtain ⟨a, cap, rfl, hc⟩ := gone_cells ho
  obtain ⟨c0, c1, c2, c3, c4, c5, c6, c7⟩ := rd_cells h
  have hl := own_le d.srv
  have HC := Lib.hid hc
  have HH := Lib.hid h
  clear hc ho h
  have hn : ¬ id < 0 := by omega
  have hn1 : ¬ 1 < id % 4 := by omega
  have hd0 : decide (id < 0) = false := decide_eq_false hn
  have hd1 : decide (1 < id % 4) = false := decide_eq_false hn1
  have hn2 : ¬ d.theirs ≤ id / 4 := by omega
  have hd2 : decide (d.theirs ≤ id / 4) = false := decide_eq_false hn2
  have H1 := Lib.hid h1
  have HM := Lib.hid hM
  clear h1 hM
  go_enter Try.func30, Try.ntmps30
  go_wp2_with (go_at_call 37; refine (ref_own_f b _ d id h0 (H1.out) _ HH.out).mono ?_; rintro e w' ⟨rfl, rfl⟩)
  go_loopw [5] (fun s wr => ∃ i : Nat, i ≤ G.length ∧ s = .int .i64 (i : Int) ∧ w = wr ∧ ∀ j (hj : j < G.length), j < i → G[j] ≠ id) (fun s _ => G.length - (intOf s).toNat)
  case atStart => exact ⟨0, by omega, rfl, rfl, fun j hj h => by omega⟩
  case round =>
    obtain ⟨i, hi', rfl, rfl, hall⟩ := hrel
    have HA := Lib.hid hall
    clear hall
    by_cases hlt : i < G.length
    · have hlI : (i : Int) < (G.length : Int) := by omega
      obtain ⟨g, rfl, k⟩ := HC.out i hlt
      obtain ⟨x, hx⟩ : ∃ x, G[i] = x := ⟨_, rfl⟩
      have HX := Lib.hid hx
      rw [hx] at k
      clear hx
      by_cases he : x = id
      · skip
        go_wp2_with fail
        go_ret
        exact ⟨rfl, rfl⟩
      · go_wp2_with fail
        go_roundw
        case rel => exact ⟨i + 1, by omega, by go_num, by trivial, fun j hj h => by
          by_cases e : j = i
          · subst e; rw [HX.out]; exact he
          · exact HA.out j hj (by omega)⟩
        case measure => (simp [intOf] <;> omega)
    · skip
      exfalso
      obtain ⟨j, hj, e⟩ := List.mem_iff_getElem.1 HM.out
      exact HA.out j hj (by omega) e
/-- A stream that isn't there, or is through. -/
theorem ref_leave_miss (b base : Nat) (v : Value) (d : RNums) (G : List Int) (id : Int) (hG : G.length ≤ 1099511627776)
    (hi9 : id ≤ 9223372036854775807) (hm : id < 0 ∨ 0 ≤ id ∧ 1 < id % 4 ∨ 0 ≤ id ∧ id % 4 = ownOf d.srv ∧ d.own ≤ id / 4 ∨ 0 ≤ id ∧ id % 4 = otherOf d.srv ∧ d.theirs ≤ id / 4 ∨ 0 ≤ id ∧ id % 4 = ownOf d.srv ∧ id / 4 < d.own ∧ id ∈ G ∨ 0 ≤ id ∧ id % 4 = otherOf d.srv ∧ id / 4 < d.theirs ∧ id ∈ G)
    (w : World) (h : w.heap[b]? = some (.cells (rdC v d) RD (0, 0))) (ho : w.ownsRow base 3 1 v G.length (intsL G)) :
    Calls Try.prog 30 #[.pointer (some ⟨b, 0, none⟩), .int .i64 id] w fun e w' => e = .returned (.int .i64 8) ∧ w = w' := by
  rcases hm with h1 | ⟨h0, h1⟩ | ⟨h0, h1, h2⟩ | ⟨h0, h1, h2⟩ | ⟨h0, h1, h2, h3⟩ | ⟨h0, h1, h2, h3⟩
  · exact rl_miss1 b base v d G id hG h1 w h ho
  · exact rl_miss2 b base v d G id hG h0 hi9 h1 w h ho
  · exact rl_miss3 b base v d G id hG h0 hi9 h1 h2 w h ho
  · exact rl_miss4 b base v d G id hG h0 hi9 h1 h2 w h ho
  · exact rl_miss5 b base v d G id hG h0 hi9 h1 h2 h3 w h ho
  · exact rl_miss6 b base v d G id hG h0 hi9 h1 h2 h3 w h ho
theorem own_keep' {w w' : World} {B : Nat} {e : TypeId} {z n : Nat} {v : Value} {xs : List Value} (h : w.ownsRow B e z v n xs) (hk : ∀ g (cur : Array Value), B ≤ g → w.heap[g]? = some (.cells cur e (0, 0)) → w'.heap[g]? = w.heap[g]?) : w'.ownsRow B e z v n xs := by
  obtain ⟨hl, ⟨rfl, h0⟩ | ⟨g, cap, cur, rfl, hg, hr, rest⟩⟩ := h
  · exact ⟨hl, .inl ⟨rfl, h0⟩⟩
  · exact ⟨hl, .inr ⟨g, cap, cur, rfl, hg, (hk g cur hg hr).trans hr, rest⟩⟩
theorem own_other {w : World} {b base : Nat} {v : Value} {d : RNums} {G : List Int} (h : w.heap[b]? = some (.cells (rdC v d) RD (0, 0))) (ho : w.ownsRow base 3 1 v G.length (intsL G)) : ∀ k, v.ownBlock = some k → k ≠ b := fun k hk e => by
  subst e
  obtain ⟨_, ⟨rfl, h1⟩ | ⟨g, cp, cur, rfl, hg, hr, _⟩⟩ := ho
  · cases hk
  · injection hk with hk
    subst hk
    rw [h] at hr
    injection hr with hr
    injection hr with _ hr
    revert hr
    decide
theorem len_snoc (G : List Int) (x : Int) : (G ++ [x]).length = G.length + 1 := by simp
theorem left_grown {w w2 : World} {b base n : Nat} {v : Value} {xs : List Value} {c : Obj} (hB : base ≤ w.heap.size) (ho : w.ownsRow base 3 1 v n xs) (hg : (w.alloc c).grownBy w2 v.ownBlock) : LeftBy b base v w w2 :=
  ⟨fun B h1 h2 => ((Below.refl B w).alloc (by omega) c).grown hg (by simp; omega) (fun k hk => Nat.le_trans h2 (own_ge ho k hk)),
    fun k hk h1 h2 => (hg.block k (by simp; omega) (Ne.symm h2)).trans (heap_alloc_old w c hk), Nat.le_trans (by simp) hg.size⟩
theorem left_cell {w w2 w3 : World} {b base n : Nat} {v u : Value} {xs : List Value} {c0 c : Array Value} (hr : w2.heap[b]? = some (.cells c0 RD (0, 0))) (q : RowSet w2 b RD c w3) (ho : w2.ownsRow base 3 1 u n xs) (lb : LeftBy b base v w w2) :
    LeftBy b base v w w3 ∧ w3.ownsRow base 3 1 u n xs := by
  refine ⟨⟨fun B h1 h2 => (lb.below B h1 h2).trans (q.below B h1), fun k hk h1 h2 => (q.other k h1).trans (lb.other k hk h1 h2), by rw [q.size]; exact lb.size⟩, own_keep' ho (fun g cur hg e => q.other g ?_)⟩
  rintro rfl
  rw [hr] at e
  injection e with e
  injection e with _ e
  revert e
  decide
set_option maxHeartbeats 4000000 in
theorem rl_hit1 (b base : Nat) (v : Value) (d : RNums) (G : List Int) (id : Int) (hG : G.length ≤ 1099511627776) (h0 : 0 ≤ id) (hi9 : id ≤ 9223372036854775807) (hl0 : 0 ≤ d.left) (hl1 : d.left ≤ 1099511627776) (h1 : id % 4 = ownOf d.srv) (h2 : id / 4 < d.own) (hno : id ∉ G)
    (w : World) (HB : base ≤ w.heap.size) (h : w.heap[b]? = some (.cells (rdC v d) RD (0, 0))) (ho : w.ownsRow base 3 1 v G.length (intsL G)) :
    Calls Try.prog 30 #[.pointer (some ⟨b, 0, none⟩), .int .i64 id] w fun e w' => e = .returned (.int .i64 0) ∧ LeftBy b base v w w' ∧ ∃ u, w'.heap[b]? = some (.cells (rdC u { d with left := d.left }) RD (0, 0)) ∧ w'.ownsRow base 3 1 u (G ++ [id]).length (intsL (G ++ [id])) := by
  obtain ⟨i0, hi, hz0, hz1, hz2⟩ := info_int
  have HBO := Lib.hid (own_other h ho)
  obtain ⟨a, cap, rfl, hc⟩ := gone_cells ho
  obtain ⟨c0, c1, c2, c3, c4, c5, c6, c7⟩ := rd_cells h
  have hl := own_le d.srv
  have HC := Lib.hid hc
  have HH := Lib.hid h
  have hb := lt_row h
  have HW := Lib.hid ho
  have hNO := Lib.hid hno
  clear hc ho h hno
  have hn2 : ¬ d.own ≤ id / 4 := by omega
  have hd2 : decide (d.own ≤ id / 4) = false := decide_eq_false hn2
  have hn : ¬ id < 0 := by omega
  have hn1 : ¬ 1 < id % 4 := by omega
  have hd0 : decide (id < 0) = false := decide_eq_false hn
  have hd1 : decide (1 < id % 4) = false := decide_eq_false hn1
  have H1 := Lib.hid h1
  clear h1
  go_enter Try.func30, Try.ntmps30
  go_wp2_with (go_at_call 37; refine (ref_own_t b _ d id h0 (H1.out) _ HH.out).mono ?_; rintro e w' ⟨rfl, rfl⟩)
  go_loopw [5] (fun s wr => ∃ i : Nat, i ≤ G.length ∧ s = .int .i64 (i : Int) ∧ w = wr ∧ ∀ j (hj : j < G.length), j < i → G[j] ≠ id) (fun s _ => G.length - (intOf s).toNat)
  case atStart => exact ⟨0, by omega, rfl, rfl, fun j hj h => by omega⟩
  case round =>
    obtain ⟨i, hi', rfl, rfl, hall⟩ := hrel
    have HA := Lib.hid hall
    clear hall
    by_cases hlt : i < G.length
    · have hlI : (i : Int) < (G.length : Int) := by omega
      obtain ⟨g, rfl, k⟩ := HC.out i hlt
      obtain ⟨x, hx⟩ : ∃ x, G[i] = x := ⟨_, rfl⟩
      have HX := Lib.hid hx
      rw [hx] at k
      clear hx
      by_cases he : x = id
      · skip
        exact (hNO.out (by rw [← he, ← HX.out]; exact List.getElem_mem hlt)).elim
      · go_wp2_with fail
        go_roundw
        case rel => exact ⟨i + 1, by omega, by go_num, by trivial, fun j hj h => by
          by_cases e : j = i
          · subst e; rw [HX.out]; exact he
          · exact HA.out j hj (by omega)⟩
        case measure => (simp [intOf] <;> omega)
    · skip
      obtain rfl : i = G.length := by omega
      go_wp2_with (first
        | (at_builtin; refine wpList_append_own _ rfl _ _ 42 rfl base 3 i0 (.int .i64 0) 1 8 Try.underlying42 hi hz0 hz1 hz2 rfl (by decide) _ G.length _ rfl (HW.out.alloc _) ⟨w.heap.size, 0, none⟩ 1 1 [.int .i64 id] rfl rfl (one_new w _ _) (by intro u hu; simp at hu; subst hu; rfl) (by unfold maxLen; omega) (by omega) (by simp; omega) ?_; intro v' w2 hown2 hgrow2 hnil; obtain ⟨a', cap', rfl, hx'⟩ := own_cells hown2; clear hx' hnil; have r2 := (hgrow2.block b (by simp; omega) (fun e => HBO.out b e.symm rfl)).trans ((heap_alloc_old w (.cells #[.int .i64 id] 3) hb).trans HH.out); obtain ⟨e0, e1, e2, e3, e4, e5, e6, e7⟩ := rd_cells r2; have g6 : w2.frozen? ⟨b, 6, none⟩ = false := frozen_of_row _ _ _ _ _ r2; have q3 := rowSet_cell w2 b 6 RD _ (.slice a' (G.length + 1) cap') r2; have r3 : (w2.setCell ⟨b, 6, none⟩ (.slice a' (G.length + 1) cap')).heap[b]? = some (.cells (rdC (.slice a' (G.length + 1) cap') d) RD (0, 0)) := q3.row; obtain ⟨z0, z1, z2, z3, z4, z5, z6, z7⟩ := rd_cells r3; have g7 : (w2.setCell ⟨b, 6, none⟩ (.slice a' (G.length + 1) cap')).frozen? ⟨b, 7, none⟩ = false := frozen_of_row _ _ _ _ _ r3)
        | (go_at_call 37; refine (ref_own_t b _ d id h0 (H1.out) _ r3).mono ?_; rintro e w' ⟨rfl, rfl⟩))
      go_ret
      have lb : LeftBy b base (.slice a G.length cap) w w2 := left_grown HB HW.out hgrow2
      rw [← intsL_snoc] at hown2
      have lc := left_cell r2 q3 hown2 lb
      exact ⟨rfl, lc.1, _, r3, by rw [len_snoc]; exact lc.2⟩
set_option maxHeartbeats 4000000 in
theorem rl_hit2 (b base : Nat) (v : Value) (d : RNums) (G : List Int) (id : Int) (hG : G.length ≤ 1099511627776) (h0 : 0 ≤ id) (hi9 : id ≤ 9223372036854775807) (hl0 : 0 ≤ d.left) (hl1 : d.left ≤ 1099511627776) (h1 : id % 4 = otherOf d.srv) (h2 : id / 4 < d.theirs) (hno : id ∉ G)
    (w : World) (HB : base ≤ w.heap.size) (h : w.heap[b]? = some (.cells (rdC v d) RD (0, 0))) (ho : w.ownsRow base 3 1 v G.length (intsL G)) :
    Calls Try.prog 30 #[.pointer (some ⟨b, 0, none⟩), .int .i64 id] w fun e w' => e = .returned (.int .i64 0) ∧ LeftBy b base v w w' ∧ ∃ u, w'.heap[b]? = some (.cells (rdC u { d with left := d.left + 1 }) RD (0, 0)) ∧ w'.ownsRow base 3 1 u (G ++ [id]).length (intsL (G ++ [id])) := by
  obtain ⟨i0, hi, hz0, hz1, hz2⟩ := info_int
  have HBO := Lib.hid (own_other h ho)
  obtain ⟨a, cap, rfl, hc⟩ := gone_cells ho
  obtain ⟨c0, c1, c2, c3, c4, c5, c6, c7⟩ := rd_cells h
  have hl := own_le d.srv
  have HC := Lib.hid hc
  have HH := Lib.hid h
  have hb := lt_row h
  have HW := Lib.hid ho
  have hNO := Lib.hid hno
  clear hc ho h hno
  have hn2 : ¬ d.theirs ≤ id / 4 := by omega
  have hd2 : decide (d.theirs ≤ id / 4) = false := decide_eq_false hn2
  have hn : ¬ id < 0 := by omega
  have hn1 : ¬ 1 < id % 4 := by omega
  have hd0 : decide (id < 0) = false := decide_eq_false hn
  have hd1 : decide (1 < id % 4) = false := decide_eq_false hn1
  have H1 := Lib.hid h1
  clear h1
  go_enter Try.func30, Try.ntmps30
  go_wp2_with (go_at_call 37; refine (ref_own_f b _ d id h0 (H1.out) _ HH.out).mono ?_; rintro e w' ⟨rfl, rfl⟩)
  go_loopw [5] (fun s wr => ∃ i : Nat, i ≤ G.length ∧ s = .int .i64 (i : Int) ∧ w = wr ∧ ∀ j (hj : j < G.length), j < i → G[j] ≠ id) (fun s _ => G.length - (intOf s).toNat)
  case atStart => exact ⟨0, by omega, rfl, rfl, fun j hj h => by omega⟩
  case round =>
    obtain ⟨i, hi', rfl, rfl, hall⟩ := hrel
    have HA := Lib.hid hall
    clear hall
    by_cases hlt : i < G.length
    · have hlI : (i : Int) < (G.length : Int) := by omega
      obtain ⟨g, rfl, k⟩ := HC.out i hlt
      obtain ⟨x, hx⟩ : ∃ x, G[i] = x := ⟨_, rfl⟩
      have HX := Lib.hid hx
      rw [hx] at k
      clear hx
      by_cases he : x = id
      · skip
        exact (hNO.out (by rw [← he, ← HX.out]; exact List.getElem_mem hlt)).elim
      · go_wp2_with fail
        go_roundw
        case rel => exact ⟨i + 1, by omega, by go_num, by trivial, fun j hj h => by
          by_cases e : j = i
          · subst e; rw [HX.out]; exact he
          · exact HA.out j hj (by omega)⟩
        case measure => (simp [intOf] <;> omega)
    · skip
      obtain rfl : i = G.length := by omega
      go_wp2_with (first
        | (at_builtin; refine wpList_append_own _ rfl _ _ 42 rfl base 3 i0 (.int .i64 0) 1 8 Try.underlying42 hi hz0 hz1 hz2 rfl (by decide) _ G.length _ rfl (HW.out.alloc _) ⟨w.heap.size, 0, none⟩ 1 1 [.int .i64 id] rfl rfl (one_new w _ _) (by intro u hu; simp at hu; subst hu; rfl) (by unfold maxLen; omega) (by omega) (by simp; omega) ?_; intro v' w2 hown2 hgrow2 hnil; obtain ⟨a', cap', rfl, hx'⟩ := own_cells hown2; clear hx' hnil; have r2 := (hgrow2.block b (by simp; omega) (fun e => HBO.out b e.symm rfl)).trans ((heap_alloc_old w (.cells #[.int .i64 id] 3) hb).trans HH.out); obtain ⟨e0, e1, e2, e3, e4, e5, e6, e7⟩ := rd_cells r2; have g6 : w2.frozen? ⟨b, 6, none⟩ = false := frozen_of_row _ _ _ _ _ r2; have q3 := rowSet_cell w2 b 6 RD _ (.slice a' (G.length + 1) cap') r2; have r3 : (w2.setCell ⟨b, 6, none⟩ (.slice a' (G.length + 1) cap')).heap[b]? = some (.cells (rdC (.slice a' (G.length + 1) cap') d) RD (0, 0)) := q3.row; obtain ⟨z0, z1, z2, z3, z4, z5, z6, z7⟩ := rd_cells r3; have g7 : (w2.setCell ⟨b, 6, none⟩ (.slice a' (G.length + 1) cap')).frozen? ⟨b, 7, none⟩ = false := frozen_of_row _ _ _ _ _ r3)
        | (go_at_call 37; refine (ref_own_f b _ d id h0 (H1.out) _ r3).mono ?_; rintro e w' ⟨rfl, rfl⟩))
      go_ret
      have lb : LeftBy b base (.slice a G.length cap) w w2 := left_grown HB HW.out hgrow2
      rw [← intsL_snoc] at hown2
      have lc := left_cell r2 q3 hown2 lb
      have q4 := rowSet_cell _ b 7 RD _ (.int .i64 (d.left + 1)) r3
      have ld := left_cell r3 q4 lc.2 lc.1
      exact ⟨rfl, ld.1, _, q4.row, by rw [len_snoc]; exact ld.2⟩
end Go.Proofs.Ytjaneododongeab
