/-
  THE DOORS AND THE DOCUMENT's, SIDE BY SIDE: what each call leaves.
-/
import Derived.Test.YtjaneododongeabFlowI
namespace Go.Proofs.Ytjaneododongeab
open Go Go.RowKit Go.BigFrame Go.Maps Go.WideElems Go.ChangeMaps Go.MapKept Go.WideShapes
set_option linter.unusedSimpArgs false
set_option linter.unusedVariables false
section
variable {w w2 w3 : World} {b m r base i n : Nat} {srv : Bool} {most O M S T C : Int} {D : DataW Unit} {gv : Value} {G : List Int}
abbrev nums (srv : Bool) (most O M S T C : Int) : Nums := ⟨ownOf srv, otherOf srv, O, M, most, S, T, C⟩
abbrev rnums (srv : Bool) (most O M S T C : Int) : RNums := ⟨srv, most, O, M, S, C, T⟩
/-- The program's doors, once the document's call has changed its own two blocks. -/
theorem doors_left {d : Nums} {c : Array Value} (h : DoorsAt w b m n d D) (hr : w.heap[r]? = some (.cells c RD (0, 0))) (ho : w.ownsRow base 3 1 gv G.length (intsL G)) (rb : r ≠ b) (rm : r ≠ m) (L : LeftBy r base gv w w2) : DoorsAt w2 b m n d D := by
  have l1 := lt_row h.row
  obtain ⟨es, cc, hq, _⟩ := h.map
  exact doors_past h (L.other b l1 (Ne.symm rb) (gone_ne (A := True) ho h.row (fun cur => row_ne_int (by decide)))) (L.other m (lt_row hq) (Ne.symm rm) (gone_ne (A := True) ho hq (fun cur e => by cases e)))
theorem left_turned (gv : Value) (h : Turned r r w w2) : LeftBy r base gv w w2 := ⟨fun B h1 _ => h.below B h1 h1, fun k hk h1 _ => h.other k hk h1 h1, h.size⟩
theorem gone_turned {c : Array Value} (hr : w.heap[r]? = some (.cells c RD (0, 0))) (ho : w.ownsRow base 3 1 gv G.length (intsL G)) (t : Turned r r w w2) : w2.ownsRow base 3 1 gv G.length (intsL G) :=
  own_of_block ho (fun g hg hl => t.other g hl (by rintro rfl; exact gone_ne (A := True) ho hr (fun cur => row_ne_int (by decide)) hg) (by rintro rfl; exact gone_ne (A := True) ho hr (fun cur => row_ne_int (by decide)) hg))
theorem open_both (h : Inv w b m r base srv most i) (hi : i < 1000) :
    Calls Try.prog 26 #[.pointer (some ⟨b, 0, none⟩)] w fun e w2 => ∃ x ee : Int, e = .returned (.tuple #[.int .i64 x, .int .i64 ee]) ∧
      Calls Try.prog 27 #[.pointer (some ⟨r, 0, none⟩)] w2 fun e w3 => e = .returned (.tuple #[.int .i64 x, .int .i64 ee]) ∧ Inv w3 b m r base srv most (i + 1) ∧ Below base w w3 := by
  obtain ⟨O, M, S, T, C, n, D, gv, G, h⟩ := h
  obtain ⟨l1, l2, l3⟩ := h.lt
  have hm0 := h.m0
  have ho0 := h.o0
  have ho1 := h.o1
  have hmf := h.mf
  have hs0 := h.s0
  have hsc := h.sc
  have hc1 := h.c1
  have ht1 := h.t1
  have hm1 := h.m1
  have hnn := h.nn
  have hl := own_le srv
  by_cases hf : M ≤ O
  · refine (open_full b m (nums srv most O M S T C) (by show 0 < most; omega) hf w h.doors.row).mono ?_
    rintro e w2 ⟨rfl, R⟩
    have t : Turned b m w w2 := Turned.ofRow R
    obtain ⟨r2, g2⟩ := h.past t
    have A2 : DoorsAt w2 b m n (nums srv most O M S T C) D := ⟨R.row, owns_heap h.doors.map (R.other m (Ne.symm h.doors.ne)), h.doors.ne⟩
    refine ⟨_, _, rfl, (ref_open_full r gv (rnums srv most O M S T C) hf w2 r2).mono ?_⟩
    rintro e w3 ⟨rfl, R3⟩
    have t3 : Turned r r w2 w3 := Turned.ofRow R3
    have A3 := doors_left A2 r2 g2 h.rb h.rm (left_turned (base := base) gv t3)
    exact ⟨rfl, ⟨O, M, S, T, C, n, D, gv, G, { h with doors := A3, row := R3.row, gone := gone_turned r2 g2 t3, o1 := by omega, t1 := by omega, g := by have := h.g; omega, i0 := by omega }⟩, (t.below base h.bb h.bm).trans (R3.below base h.br)⟩
  · have hlt : O < M := by omega
    refine (open_ok b m n (nums srv most O M S T C) D (by show 0 < most; omega) hlt ho0 hmf hl.1 (by show ownOf srv ≤ 3; omega) (by omega) w h.doors).mono ?_
    rintro e w2 ⟨rfl, A2, t⟩
    obtain ⟨r2, g2⟩ := h.past t
    refine ⟨_, _, rfl, (ref_open_ok r gv (rnums srv most O M S T C) hlt ho0 (by show O ≤ _; omega) w2 r2).mono ?_⟩
    rintro e w3 ⟨rfl, R3⟩
    have t3 : Turned r r w2 w3 := Turned.ofRow R3
    have A3 := doors_left A2 r2 g2 h.rb h.rm (left_turned (base := base) gv t3)
    refine ⟨rfl, ⟨O + 1, M, S, T, C, n + 1, _, gv, G, { h with doors := A3, row := R3.row, gone := gone_turned r2 g2 t3, o0 := by omega, o1 := by omega, om := by omega, t1 := by omega, nn := by omega, g := by have := h.g; omega, i0 := by omega, has := ?_, sub := ?_ }⟩, (t.below base h.bb h.bm).trans (R3.below base h.br)⟩
    · intro x
      show Maps.has (D.put (.int .i64 (4 * O + ownOf srv)) (.agg [])) (.int .i64 x) = true ↔ _
      rw [has_put D h.doors.map.isMap _ _ (by omega), h.has x, was_own ho0]
      constructor
      · rintro (h1 | ⟨h1, h2⟩)
        · refine ⟨.inl h1, fun hx => ?_⟩
          have h3 := h.sub x hx
          subst h1
          cases srv <;> simp [Was, ownOf, otherOf] at h3 <;> omega
        · exact ⟨.inr h1, h2⟩
      · rintro ⟨h1 | h1, h2⟩
        · exact .inl h1
        · exact .inr ⟨h1, h2⟩
    · intro x hx
      exact (was_own ho0).2 (.inr (h.sub x hx))
theorem grant_both (h : Inv w b m r base srv most i) (hi : i < 1000) :
    Calls Try.prog 31 #[.pointer (some ⟨b, 0, none⟩)] w fun e w2 => ∃ (x : Int) (y : Bool), e = .returned (.tuple #[.int .i64 x, .bool y]) ∧
      Calls Try.prog 32 #[.pointer (some ⟨r, 0, none⟩)] w2 fun e w3 => e = .returned (.tuple #[.int .i64 x, .bool y]) ∧ Inv w3 b m r base srv most (i + 1) ∧ Below base w w3 := by
  obtain ⟨O, M, S, T, C, n, D, gv, G, h⟩ := h
  obtain ⟨l1, l2, l3⟩ := h.lt
  have hm0 := h.m0
  have hs0 := h.s0
  have hsc := h.sc
  have hc1 := h.c1
  have ht0 := h.t0
  have ht1 := h.t1
  have hm1 := h.m1
  have ho1 := h.o1
  refine (grantD_any b m (nums srv most O M S T C) (by show 0 < most; omega) hm1 ht0 (by show T ≤ _; omega) (by show 0 ≤ C; omega) (by show C ≤ _; omega) w h.doors.row).mono ?_
  rintro e w2 ⟨rfl, R⟩
  have t : Turned b m w w2 := Turned.ofRow R
  obtain ⟨r2, g2⟩ := h.past t
  have A2 : DoorsAt w2 b m n (nums srv most O M S T (if most ≤ C - T then C else T + most)) D := ⟨R.row, owns_heap h.doors.map (R.other m (Ne.symm h.doors.ne)), h.doors.ne⟩
  refine ⟨_, _, rfl, (refD_grant r gv (rnums srv most O M S T C) (by show 0 < most; omega) hm1 ht0 (by show T ≤ _; omega) (by show 0 ≤ C; omega) (by show C ≤ _; omega) w2 r2).mono ?_⟩
  rintro e w3 ⟨rfl, R3⟩
  have t3 : Turned r r w2 w3 := Turned.ofRow R3
  have A3 := doors_left A2 r2 g2 h.rb h.rm (left_turned (base := base) gv t3)
  exact ⟨rfl, ⟨O, M, S, T, if most ≤ C - T then C else T + most, n, D, gv, G, { h with doors := A3, row := R3.row, gone := gone_turned r2 g2 t3, o1 := by omega, t1 := by omega, sc := by split <;> omega, c1 := by split <;> omega, g := by have := h.g; omega, i0 := by omega }⟩, (t.below base h.bb h.bm).trans (R3.below base h.br)⟩
theorem leave_both (h : Inv w b m r base srv most i) (hi : i < 1000) (hbs : base ≤ w.heap.size) (id : Int) (h9 : -9223372036854775808 ≤ id ∧ id ≤ 9223372036854775807) :
    Calls Try.prog 24 #[.pointer (some ⟨b, 0, none⟩), .int .i64 id] w fun e w2 => ∃ x : Int, e = .returned (.int .i64 x) ∧
      Calls Try.prog 30 #[.pointer (some ⟨r, 0, none⟩), .int .i64 id] w2 fun e w3 => e = .returned (.int .i64 x) ∧ Inv w3 b m r base srv most (i + 1) ∧ Below base w w3 := by
  obtain ⟨O, M, S, T, C, n, D, gv, G, h⟩ := h
  obtain ⟨l1, l2, l3⟩ := h.lt
  have hm0 := h.m0
  have hs0 := h.s0
  have hsc := h.sc
  have hc1 := h.c1
  have ht0 := h.t0
  have ht1 := h.t1
  have hm1 := h.m1
  have ho0 := h.o0
  have ho1 := h.o1
  have hi0 := h.i0
  have hg := h.g
  have hl := own_le srv
  by_cases hh : Maps.has D (.int .i64 id) = true
  · obtain ⟨hw, hng⟩ := (h.has id).1 hh
    have hw' := hw
    obtain ⟨hw0, hw1⟩ := hw'
    have hid4 : id ≤ 4503599627370496 := by omega
    refine (leave_hit b m n (nums srv most O M S T C) D id (by show 0 < most; omega) ht0 (by show T ≤ _; omega) hw0 hid4 hh w h.doors).mono ?_
    rintro e w2 ⟨rfl, A2, t⟩
    obtain ⟨r2, g2⟩ := h.past t
    have hT2 : (if id % 4 = otherOf srv then T + 1 else T) = (if id % 4 = otherOf srv then T + 1 else T) := rfl
    have key : Calls Try.prog 30 #[.pointer (some ⟨r, 0, none⟩), .int .i64 id] w2 fun e w' => e = .returned (.int .i64 0) ∧ LeftBy r base gv w2 w' ∧ ∃ u, w'.heap[r]? = some (.cells (rdC u (rnums srv most O M S (if id % 4 = otherOf srv then T + 1 else T) C)) RD (0, 0)) ∧ w'.ownsRow base 3 1 u (G ++ [id]).length (intsL (G ++ [id])) := by
      rcases hw1 with ⟨h1, h2⟩ | ⟨h1, h2⟩
      · have e1 : ¬ id % 4 = otherOf srv := by omega
        rw [if_neg e1]
        exact rl_hit1 r base gv (rnums srv most O M S T C) G id (by omega) hw0 h9.2 ht0 (by show T ≤ _; omega) h1 h2 hng w2 (Nat.le_trans hbs t.size) r2 g2
      · rw [if_pos h1]
        exact rl_hit2 r base gv (rnums srv most O M S T C) G id (by omega) hw0 h9.2 ht0 (by show T ≤ _; omega) h1 h2 hng w2 (Nat.le_trans hbs t.size) r2 g2
    refine ⟨_, rfl, key.mono ?_⟩
    rintro e w3 ⟨rfl, L, u, r3, g3⟩
    have A3 := doors_left A2 r2 g2 h.rb h.rm L
    refine ⟨rfl, ⟨O, M, S, if id % 4 = otherOf srv then T + 1 else T, C, n, _, u, G ++ [id], { h with doors := A3, row := r3, gone := g3, o1 := by omega, t0 := by split <;> omega, t1 := by split <;> omega, c1 := by split <;> omega, g := by simp; omega, i0 := by omega, has := ?_, sub := ?_ }⟩, (t.below base h.bb h.bm).trans (L.below base h.br (Nat.le_refl _))⟩
    · intro x
      rw [has_del, h.has x, List.mem_append, List.mem_singleton]
      constructor
      · rintro ⟨h1, h2, h3⟩
        exact ⟨h2, fun e => e.elim h3 h1⟩
      · rintro ⟨h1, h2⟩
        exact ⟨fun e => h2 (.inr e), h1, fun e => h2 (.inl e)⟩
    · intro x hx
      rcases List.mem_append.1 hx with hx | hx
      · exact h.sub x hx
      · rw [List.mem_singleton] at hx; subst hx; exact hw
  · have hh' : Maps.has D (.int .i64 id) = false := by simpa using hh
    refine (leave_miss' b m n (nums srv most O M S T C) D id (by show 0 < most; omega) h9.1 h9.2 hh' w h.doors).mono ?_
    rintro e w2 ⟨rfl, A2, t⟩
    obtain ⟨r2, g2⟩ := h.past t
    have hno : ¬ (Was srv O S id ∧ id ∉ G) := fun e => hh ((h.has id).2 e)
    have hcase : id < 0 ∨ 0 ≤ id ∧ 1 < id % 4 ∨ 0 ≤ id ∧ id % 4 = ownOf srv ∧ O ≤ id / 4 ∨ 0 ≤ id ∧ id % 4 = otherOf srv ∧ S ≤ id / 4 ∨ 0 ≤ id ∧ id % 4 = ownOf srv ∧ id / 4 < O ∧ id ∈ G ∨ 0 ≤ id ∧ id % 4 = otherOf srv ∧ id / 4 < S ∧ id ∈ G := by
      by_cases hG : id ∈ G
      · have hs := h.sub id hG
        obtain ⟨a1, ⟨a2, a3⟩ | ⟨a2, a3⟩⟩ := hs
        · exact .inr (.inr (.inr (.inr (.inl ⟨a1, a2, a3, hG⟩))))
        · exact .inr (.inr (.inr (.inr (.inr ⟨a1, a2, a3, hG⟩))))
      · have hnw : ¬ Was srv O S id := fun e => hno ⟨e, hG⟩
        clear hno hG
        cases srv <;> simp [Was, ownOf, otherOf] at hnw ⊢ <;> omega
    refine ⟨_, rfl, (ref_leave_miss r base gv (rnums srv most O M S T C) G id (by omega) h9.2 hcase w2 r2 g2).mono ?_⟩
    rintro e w3 ⟨rfl, rfl⟩
    exact ⟨rfl, ⟨O, M, S, T, C, n, D, gv, G, { h with doors := A2, row := r2, gone := g2, o1 := by omega, t1 := by omega, g := by omega, i0 := by omega }⟩, t.below base h.bb h.bm⟩
theorem Both.step (h : Both w b m r base srv most i O M S T C n D gv G) (hi : i < 1000) : Both w b m r base srv most (i + 1) O M S T C n D gv G := by
  have := h.o1
  have := h.t1
  have := h.g
  exact { h with o1 := by omega, t1 := by omega, g := by omega, i0 := by omega }
theorem Both.turn (h : Both w b m r base srv most i O M S T C n D gv G) (gg : Nat) (h1 : gg ≠ b) (h2 : gg ≠ m) (h3 : gg ≠ r) (h4 : gv.ownBlock ≠ some gg) (hs : ∀ q, q < w.heap.size → q ≠ gg → w2.heap[q]? = w.heap[q]?) : Both w2 b m r base srv most i O M S T C n D gv G := by
  obtain ⟨l1, l2, l3⟩ := h.lt
  exact { h with doors := doors_past h.doors (hs b l1 (Ne.symm h1)) (hs m l2 (Ne.symm h2)), row := (hs r l3 (Ne.symm h3)).trans h.row, gone := own_of_block h.gone (fun g hg hl => hs g hl (by rintro rfl; exact h4 hg)) }
theorem own_row {w : World} {B n : Nat} {v : Value} {xs : List Value} (h : w.ownsRow B 3 1 v n xs) : ∃ a cap gg, v = .slice a n cap ∧ (n = 0 ∧ gg = w.heap.size ∨ a = some ⟨gg, 0, none⟩ ∧ B ≤ gg ∧ ∃ cur : Array Value, w.heap[gg]? = some (.cells cur 3 (0, 0)) ∧ n ≤ cur.size) := by
  obtain ⟨hl, ⟨rfl, h0⟩ | ⟨g, cap, cur, rfl, hg, hr, h2, hm, hs, ht⟩⟩ := h
  · subst h0; exact ⟨_, _, _, rfl, .inl ⟨rfl, rfl⟩⟩
  · exact ⟨_, _, g, rfl, .inr ⟨rfl, hg, cur, hr, by omega⟩⟩
/-- What Come left: rows of the same numbers, of which the program's may be written. -/
structure Came (w w3 : World) (b m r base : Nat) (srv : Bool) (most : Int) (i : Nat) (v u : Value) (a : Option Addr) (k cap gg : Nat) : Prop where
  isv : v = .slice a k cap
  kle : k ≤ 1000
  gb : base ≤ gg
  row : k = 0 ∨ a = some ⟨gg, 0, none⟩ ∧ ∃ cur : Array Value, w3.heap[gg]? = some (.cells cur 3 (0, 0)) ∧ k ≤ cur.size
  below : Below base w w3
  same : Calls Try.prog 29 #[v, u] w3 fun e w4 => e = .returned (.bool true) ∧ ∀ B, Below B w3 w4
  inv : ∀ w5 : World, (∀ q, q < w3.heap.size → q ≠ gg → w5.heap[q]? = w3.heap[q]?) → Inv w5 b m r base srv most (i + 1)
theorem came_nil (h : Both w b m r base srv most i O M S T C n D gv G) (hi : i < 1000) (hbs : base ≤ w.heap.size) : Came w w b m r base srv most i (.slice none 0 0) (.slice none 0 0) none 0 0 w.heap.size := by
  obtain ⟨l1, l2, l3⟩ := h.lt
  exact ⟨rfl, by omega, hbs, .inl rfl, Below.refl _ _, (ints_none none none 0 0 w).mono (fun e w' ⟨he, hw⟩ => ⟨he, fun B => by subst hw; exact Below.refl _ _⟩),
    fun w5 hs => ⟨O, M, S, T, C, n, D, gv, G, (h.step hi).turn w.heap.size (by omega) (by omega) (by omega) (fun e => by have := (h.gone.lt _ e).2; omega) hs⟩⟩
theorem come_both (h : Inv w b m r base srv most i) (hi : i < 900) (hbs : base ≤ w.heap.size) (id : Int) :
    Calls Try.prog 23 #[.pointer (some ⟨b, 0, none⟩), .int .i64 id] w fun e w2 => ∃ (v : Value) (x : Int), e = .returned (.tuple #[v, .int .i64 x]) ∧
      Calls Try.prog 28 #[.pointer (some ⟨r, 0, none⟩), .int .i64 id] w2 fun e w3 => ∃ (u : Value) (a : Option Addr) (k cap gg : Nat), e = .returned (.tuple #[u, .int .i64 x]) ∧ Came w w3 b m r base srv most i v u a k cap gg := by
  obtain ⟨O, M, S, T, C, n, D, gv, G, h⟩ := h
  obtain ⟨l1, l2, l3⟩ := h.lt
  have hm0 := h.m0
  have hs0 := h.s0
  have hsc := h.sc
  have hc1 := h.c1
  have ht0 := h.t0
  have ht1 := h.t1
  have hm1 := h.m1
  have ho0 := h.o0
  have ho1 := h.o1
  have hnn := h.nn
  have hl := own_le srv
  have nil := came_nil h (by omega) hbs
  have hM : 0 < (nums srv most O M S T C).most := by show 0 < most; omega
  by_cases a1 : id < 0 ∨ 4398046511104 < id
  · refine (come_arg b m (nums srv most O M S T C) id hM a1 w h.doors.row).mono ?_
    rintro e w2 ⟨rfl, rfl⟩
    refine ⟨_, _, rfl, (ref_come_arg r gv (rnums srv most O M S T C) id a1 w h.row).mono ?_⟩
    rintro e w3 ⟨rfl, rfl⟩
    exact ⟨_, _, _, _, _, rfl, nil⟩
  have i0 : 0 ≤ id := by omega
  have i1 : id ≤ 4398046511104 := by omega
  by_cases a2 : 1 < id % 4
  · refine (come_form b m (nums srv most O M S T C) id i0 i1 hM a2 hl.2.1 hl.2.2.2.1 w h.doors.row).mono ?_
    rintro e w2 ⟨rfl, rfl⟩
    refine ⟨_, _, rfl, (ref_come_form r gv (rnums srv most O M S T C) id i0 i1 a2 w h.row).mono ?_⟩
    rintro e w3 ⟨rfl, rfl⟩
    exact ⟨_, _, _, _, _, rfl, nil⟩
  by_cases a3 : id % 4 = ownOf srv
  · by_cases a4 : O ≤ id / 4
    · refine (come_state b m (nums srv most O M S T C) id i0 i1 hM a3 a4 w h.doors.row).mono ?_
      rintro e w2 ⟨rfl, rfl⟩
      refine ⟨_, _, rfl, (ref_come_own r gv (rnums srv most O M S T C) id i0 i1 a3 w h.row).mono ?_⟩
      rintro e w3 ⟨rfl, rfl⟩
      refine ⟨_, _, _, _, _, ?_, nil⟩
      rw [if_pos a4]
    · refine (come_own b m (nums srv most O M S T C) id i0 i1 hM a3 (by show id / 4 < O; omega) w h.doors.row).mono ?_
      rintro e w2 ⟨rfl, rfl⟩
      refine ⟨_, _, rfl, (ref_come_own r gv (rnums srv most O M S T C) id i0 i1 a3 w h.row).mono ?_⟩
      rintro e w3 ⟨rfl, rfl⟩
      refine ⟨_, _, _, _, _, ?_, nil⟩
      rw [if_neg a4]
  have a5 : id % 4 = otherOf srv := by
    clear nil
    cases srv <;> simp [ownOf, otherOf] at * <;> omega
  by_cases a6 : C ≤ id / 4
  · refine (come_flow b m n (nums srv most O M S T C) D id i0 i1 hM a5 hl.2.2.2.2 a6 w h.doors).mono ?_
    rintro e w2 ⟨rfl, rfl⟩
    refine ⟨_, _, rfl, (ref_come_flow r gv (rnums srv most O M S T C) id i0 i1 a5 a6 w h.row).mono ?_⟩
    rintro e w3 ⟨rfl, rfl⟩
    exact ⟨_, _, _, _, _, rfl, nil⟩
  clear nil
  obtain ⟨k, hk⟩ : ∃ k : Nat, S + (k : Int) = id / 4 + 1 ∨ k = 0 ∧ id / 4 < S := by
    by_cases e : id / 4 < S
    · exact ⟨0, .inr ⟨rfl, e⟩⟩
    · exact ⟨(id / 4 + 1 - S).toNat, .inl (by omega)⟩
  have hkk : k ≤ 1000 := by omega
  refine (come_enter b m n k (nums srv most O M S T C) D S id hs0 (by omega) i0 i1 hl.2.2.1 (by show otherOf srv ≤ 3; omega) hM a5 hl.2.2.2.2 (by show id / 4 < C; omega) hk (by omega) w h.doors).mono ?_
  rintro e w2 ⟨v, rfl, o2, A2, t⟩
  obtain ⟨r2, g2⟩ := h.past t
  refine ⟨_, _, rfl, (ref_come_enter r k gv (rnums srv most O M S T C) S id i0 i1 a5 (by show id / 4 < C; omega) hs0 (by omega) hk w2 r2).mono ?_⟩
  rintro e w3 ⟨u, rfl, o3, r3, t3⟩
  have A3 := doors_left A2 r2 g2 h.rb h.rm (left_turned (base := base) gv t3)
  have o2' : w3.ownsRow w.heap.size 3 1 v k (idsL (otherOf srv) S k) := own_keep o2 (fun g hg hl => t3.other g hl (by omega) (by omega))
  rw [a5] at o3
  have same := ints_ids (otherOf srv) S k _ _ (by omega) v u w3 o2' o3
  obtain ⟨aa, cap, gg, hv, hrow⟩ := own_row o2'
  have B3 : Both w3 b m r base srv most (i + 1) O M (S + (k : Int)) T C (n + k) (putsD D (otherOf srv) S k) gv G := by
    refine { h.step (by omega) with doors := A3, row := r3, gone := gone_turned r2 g2 t3, s0 := by omega, sc := by omega, nn := by omega, has := ?_, sub := ?_ }
    · intro x
      rw [has_puts D h.doors.map.isMap srv O S hs0 (by omega) _ h.has k hkk x]
      have hq : Was srv O S x → Was srv O (S + (k : Int)) x := by
        rintro ⟨h1, h2⟩
        exact ⟨h1, h2.imp_right (fun h3 => ⟨h3.1, by omega⟩)⟩
      constructor
      · rintro (⟨h1, h2⟩ | ⟨h1, h2⟩)
        · exact ⟨hq h1, h2⟩
        · exact ⟨h1, fun e => h2 (h.sub x e)⟩
      · rintro ⟨h1, h2⟩
        by_cases h3 : Was srv O S x
        · exact .inl ⟨h3, h2⟩
        · exact .inr ⟨h1, h3⟩
    · intro x hx
      obtain ⟨h1, h2⟩ := h.sub x hx
      exact ⟨h1, h2.imp_right (fun h3 => ⟨h3.1, by omega⟩)⟩
  have hgs := t.size
  have hgs3 := t3.size
  have hgone : ∀ q, gv.ownBlock = some q → q < w.heap.size := fun q hq => (h.gone.lt q hq).2
  have hge : w.heap.size ≤ gg := by
    rcases hrow with ⟨_, h2⟩ | ⟨_, h2, _⟩
    · rw [h2]; omega
    · exact h2
  refine ⟨u, aa, k, cap, gg, rfl, hv, hkk, by omega, ?_, (t.below base h.bb h.bm).trans (t3.below base h.br h.br), same, fun w5 hs => ⟨O, M, S + (k : Int), T, C, n + k, _, gv, G, B3.turn gg (by omega) (by omega) (by omega) (fun e => by have := hgone gg e; omega) hs⟩⟩
  rcases hrow with ⟨h1, _⟩ | ⟨h1, _, h2⟩
  · exact .inl h1
  · exact .inr ⟨h1, h2⟩
theorem allow_both (h : Inv w b m r base srv most i) (hi : i < 1000) (N : Int) :
    Calls Try.prog 22 #[.pointer (some ⟨b, 0, none⟩), .int .i64 N] w fun e w2 => e = .returned (.tuple #[]) ∧ Below base w w2 ∧ ∃ (M : Int) (gv : Value) (d : RNums), d.may = M ∧ w2.heap[r]? = some (.cells (rdC gv d) RD (0, 0)) ∧
      ∀ w3, RowSet w2 r RD (rdC gv { d with may := max M (min N 1099511627776) }) w3 → Inv w3 b m r base srv most (i + 1) ∧ Below base w2 w3 := by
  obtain ⟨O, M, S, T, C, n, D, gv, G, h⟩ := h
  have hm0 := h.m0
  refine (allowD_any b m (nums srv most O M S T C) (by show 0 < most; omega) N w h.doors.row).mono ?_
  rintro e w2 ⟨rfl, R⟩
  have t : Turned b m w w2 := Turned.ofRow R
  obtain ⟨r2, g2⟩ := h.past t
  have A2 : DoorsAt w2 b m n (nums srv most O (max M (min N 1099511627776)) S T C) D := ⟨R.row, owns_heap h.doors.map (R.other m (Ne.symm h.doors.ne)), h.doors.ne⟩
  refine ⟨rfl, t.below base h.bb h.bm, M, gv, rnums srv most O M S T C, rfl, r2, fun w3 R3 => ?_⟩
  have t3 : Turned r r w2 w3 := Turned.ofRow R3
  have A3 := doors_left A2 r2 g2 h.rb h.rm (left_turned (base := base) gv t3)
  have hmf := h.mf
  have hom := h.om
  exact ⟨⟨O, max M (min N 1099511627776), S, T, C, n, D, gv, G, { h.step hi with doors := A3, row := R3.row, gone := gone_turned r2 g2 t3, om := by omega, mf := by omega }⟩, R3.below base h.br⟩
end
theorem inv_start {w : World} {b m r base : Nat} {srv : Bool} {W : Int} (h1 : 1 ≤ W) (h2 : W ≤ 32) (hd : w.heap[b]? = some (.cells (doorsC m (newNums srv W)) DT (0, 0))) (hm : w.heap[m]? = some (.map #[] 0)) (hr : w.heap[r]? = some (.cells (rdC (.slice none 0 0) ⟨srv, W, 0, 0, 0, W, 0⟩) RD (0, 0)))
    (bm : b ≠ m) (rb : r ≠ b) (rm : r ≠ m) (b1 : base ≤ b) (b2 : base ≤ m) (b3 : base ≤ r) : Inv w b m r base srv W 0 :=
  ⟨0, 0, 0, 0, W, 0, .map [], .slice none 0 0, [], { doors := ⟨hd, owns_empty hm, bm⟩, row := hr, gone := ⟨rfl, .inl ⟨rfl, rfl⟩⟩, rb := rb, rm := rm, bb := b1, bm := b2, br := b3, m0 := h1, m1 := h2, o0 := by omega, o1 := by omega, om := by omega, mf := by omega, s0 := by omega, sc := by omega, t0 := by omega, t1 := by omega, c1 := by omega, nn := by omega, g := Nat.zero_le _, i0 := Nat.zero_le _, has := fun x => ⟨fun h => by simp [Maps.has] at h, fun h => by obtain ⟨⟨h1, h2⟩, _⟩ := h; omega⟩, sub := fun x hx => by simp at hx }⟩
theorem inv_step {w : World} {b m r base i : Nat} {srv : Bool} {W : Int} (h : Inv w b m r base srv W i) (hi : i < 1000) : Inv w b m r base srv W (i + 1) := by
  obtain ⟨O, M, S, T, C, n, D, gv, G, h⟩ := h
  exact ⟨O, M, S, T, C, n, D, gv, G, h.step hi⟩
end Go.Proofs.Ytjaneododongeab
