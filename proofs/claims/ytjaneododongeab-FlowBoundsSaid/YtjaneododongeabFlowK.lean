/-
  TWO ENDS THAT TELL ONE ANOTHER WHAT THEY GRANT.
-/
import Derived.Test.YtjaneododongeabFlowJ
import Derived.Test.YtjaneododongeabInts
namespace Go.Proofs.Ytjaneododongeab
open Go Go.RowKit Go.BigFrame Go.Maps Go.WideElems Go.ChangeMaps Go.MapKept Go.WideShapes
set_option linter.unusedSimpArgs false
set_option linter.unusedVariables false
/-- The streams that are there: from one on up to another. -/
def idsT (T O : Nat) : List Int := (List.range' T (O - T)).map fun (t : Nat) => 4 * (t : Int)
theorem idsT_len (T O : Nat) : (idsT T O).length = O - T := by simp [idsT]
theorem idsT_at {T O i : Nat} (h : T + i < O) : (idsT T O)[i]? = some (4 * ((T + i : Nat) : Int)) := by
  have : i < O - T := by omega
  simp [idsT, List.getElem?_range', this]
theorem idsT_drop {T O : Nat} (h : T < O) : (idsT T O).drop 1 = idsT (T + 1) O := by
  obtain ⟨n, hn⟩ : ∃ n, O - T = n + 1 := ⟨O - T - 1, by omega⟩
  unfold idsT
  rw [hn, show O - (T + 1) = n by omega, List.range'_succ]
  simp
theorem idsT_snoc {T O : Nat} (h : T ≤ O) : idsT T O ++ [4 * (O : Int)] = idsT T (O + 1) := by
  unfold idsT
  rw [show O + 1 - T = (O - T) + 1 by omega, List.range'_concat, List.map_append]
  simp
  omega
structure Two (w : World) (am ab bm bb pb qb base : Nat) (most : Int) (i O T : Nat) (M C A L S U : Int) (Da Db : DataW Unit) : Prop where
  da : DoorsAt w ab am O ⟨0, 1, O, M, 5, 0, 0, 5⟩ Da
  db : DoorsAt w bb bm O ⟨1, 0, 0, 0, most, O, T, C⟩ Db
  rp : w.heap[pb]? = some (.cells (purseC 100 100 0 0 A S) PT (0, 0))
  rq : w.heap[qb]? = some (.cells (purseC 100 L S U 0 0) PT (0, 0))
  order : base ≤ am ∧ am < ab ∧ ab < bm ∧ bm < bb ∧ bb < pb ∧ pb < qb
  m0 : 1 ≤ most
  m1 : most ≤ 32
  to : T ≤ O
  oi : O ≤ i
  i0 : i ≤ 1000
  om : (O : Int) ≤ M
  mc : M ≤ C
  ct : C ≤ T + most
  u0 : 0 ≤ U
  us : U ≤ S
  sa : S ≤ A
  al : A ≤ L
  lu : L ≤ U + 100
  si : S ≤ 100 * ((i : Int) + 1)
  ha : ∀ x : Int, Maps.has Da (.int .i64 x) = true ↔ ∃ t : Nat, T ≤ t ∧ t < O ∧ x = 4 * (t : Int)
  hb : ∀ x : Int, Maps.has Db (.int .i64 x) = true ↔ ∃ t : Nat, T ≤ t ∧ t < O ∧ x = 4 * (t : Int)
section
variable {w w2 : World} {am ab bm bb pb qb base i O T : Nat} {most M C A L S U : Int} {Da Db : DataW Unit} {v : Value} {G : List Int}
theorem Two.lts (h : Two w am ab bm bb pb qb base most i O T M C A L S U Da Db) : ab < w.heap.size ∧ bb < w.heap.size ∧ qb < w.heap.size := ⟨lt_row h.da.row, lt_row h.db.row, lt_row h.rq⟩
theorem Two.step (h : Two w am ab bm bb pb qb base most i O T M C A L S U Da Db) (hi : i < 1000) : Two w am ab bm bb pb qb base most (i + 1) O T M C A L S U Da Db := by
  have := h.oi
  have := h.si
  exact { h with oi := by omega, i0 := by omega, si := by omega }
/-- Other blocks may change. -/
theorem Two.keep (h : Two w am ab bm bb pb qb base most i O T M C A L S U Da Db) (hk : ∀ k, k = am ∨ k = ab ∨ k = bm ∨ k = bb ∨ k = pb ∨ k = qb → w2.heap[k]? = w.heap[k]?) : Two w2 am ab bm bb pb qb base most i O T M C A L S U Da Db :=
  { h with da := doors_past h.da (hk ab (by simp)) (hk am (by simp)), db := doors_past h.db (hk bb (by simp)) (hk bm (by simp)), rp := (hk pb (by simp)).trans h.rp, rq := (hk qb (by simp)).trans h.rq }
theorem ownI_ne {k : Nat} {o : Obj} (ho : OwnI base v G w) (hk : w.heap[k]? = some o) (hne : ∀ cur, o ≠ .cells cur 3 (0, 0)) : v.ownBlock ≠ some k := by
  intro e
  rcases ho.row with ⟨rfl, _⟩ | ⟨g, o', cap, cur, rfl, hB, hg, _⟩
  · cases e
  · injection e with e
    subst e
    rw [hk] at hg
    injection hg with hg
    exact hne _ hg
theorem Two.apart (h : Two w am ab bm bb pb qb base most i O T M C A L S U Da Db) (ho : OwnI base v G w) : ∀ k, k = am ∨ k = ab ∨ k = bm ∨ k = bb ∨ k = pb ∨ k = qb → v.ownBlock ≠ some k := by
  have e1 : DT ≠ 3 := by decide
  have e2 : PT ≠ 3 := by decide
  rintro k (rfl | rfl | rfl | rfl | rfl | rfl)
  · obtain ⟨es, c, hq, _⟩ := h.da.map; exact ownI_ne ho hq (fun cur e => by cases e)
  · exact ownI_ne ho h.da.row (fun cur => row_ne_int e1)
  · obtain ⟨es, c, hq, _⟩ := h.db.map; exact ownI_ne ho hq (fun cur e => by cases e)
  · exact ownI_ne ho h.db.row (fun cur => row_ne_int e1)
  · exact ownI_ne ho h.rp (fun cur => row_ne_int e2)
  · exact ownI_ne ho h.rq (fun cur => row_ne_int e2)
/-- What is appended to what waits in a row of one's own leaves the ends. -/
theorem Two.grew {v' : Value} (h : Two w am ab bm bb pb qb base most i O T M C A L S U Da Db) (ho : OwnI base v G w) (hs : w2.heap.size = w2.heap.size) (g : GrewI w w2 v v') : Two w2 am ab bm bb pb qb base most i O T M C A L S U Da Db := by
  obtain ⟨l1, l2, l3⟩ := h.lts
  have ho2 := h.order
  exact h.keep (fun k hk => g.block k (by omega) (h.apart ho k hk))
theorem own_turned {b m : Nat} (ho : OwnI base v G w) (t : Turned b m w w2) (h1 : v.ownBlock ≠ some b) (h2 : v.ownBlock ≠ some m) : OwnI base v G w2 :=
  ho.kept t.size (fun g hg hl => t.other g hl (by rintro rfl; exact h1 hg) (by rintro rfl; exact h2 hg))
theorem two_open_full (h : Two w am ab bm bb pb qb base most i O T M C A L S U Da Db) (hi : i < 1000) (hf : M ≤ O) (ho : OwnI base v G w) :
    Calls Try.prog 26 #[.pointer (some ⟨ab, 0, none⟩)] w fun e w2 => e = .returned (.tuple #[.int .i64 0, .int .i64 6]) ∧ Two w2 am ab bm bb pb qb base most (i + 1) O T M C A L S U Da Db ∧ OwnI base v G w2 ∧ Below base w w2 := by
  refine (open_full ab am ⟨0, 1, O, M, 5, 0, 0, 5⟩ (by first | decide | (simp; done) | (simp; omega)) hf w h.da.row).mono ?_
  rintro e w2 ⟨rfl, R⟩
  have ho2 := h.order
  have t : Turned ab am w w2 := Turned.ofRow R
  have hsame : ∀ k, w2.heap[k]? = w.heap[k]? := fun k => by
    by_cases e : k = ab
    · rw [e]; exact R.row.trans h.da.row.symm
    · exact R.other k e
  exact ⟨rfl, (h.step hi).keep (fun k _ => hsame k), ho.kept t.size (fun g _ _ => hsame g), t.below base (by omega) (by omega)⟩
theorem two_open_ok (h : Two w am ab bm bb pb qb base most i O T M C A L S U Da Db) (hi : i < 1000) (hf : (O : Int) < M) (ho : OwnI base v G w) :
    Calls Try.prog 26 #[.pointer (some ⟨ab, 0, none⟩)] w fun e w2 => e = .returned (.tuple #[.int .i64 (4 * (O : Int)), .int .i64 0]) ∧
      Calls Try.prog 23 #[.pointer (some ⟨bb, 0, none⟩), .int .i64 (4 * (O : Int))] w2 fun e w3 => ∃ g cap, e = .returned (.tuple #[.slice (some ⟨g, 0, none⟩) 1 cap, .int .i64 0]) ∧ w3.cell? ⟨g, 0, none⟩ = some (.int .i64 (4 * (O : Int))) ∧
        (∃ Da Db, Two w3 am ab bm bb pb qb base most (i + 1) (O + 1) T M C A L S U Da Db) ∧ OwnI base v G w3 ∧ Below base w w3 := by
  have ho2 := h.order
  have hm0 := h.m0
  have hm1 := h.m1
  have hmc := h.mc
  have hct := h.ct
  have hto := h.to
  have hoi := h.oi
  have hi0 := h.i0
  have hap := h.apart ho
  obtain ⟨l1, l2, l3⟩ := h.lts
  refine (open_ok ab am O ⟨0, 1, O, M, 5, 0, 0, 5⟩ Da (by first | decide | (simp; done) | (simp; omega)) hf (by show (0 : Int) ≤ O; omega) (by show M ≤ _; omega) (by first | decide | (simp; done) | (simp; omega)) (by first | decide | (simp; done) | (simp; omega)) (by omega) w h.da).mono ?_
  rintro e w2 ⟨rfl, A2, t⟩
  have db2 : DoorsAt w2 bb bm O ⟨1, 0, 0, 0, most, O, T, C⟩ Db := doors_past h.db (t.other bb (by omega) (by omega) (by omega)) (t.other bm (by omega) (by omega) (by omega))
  have op2 := own_turned ho t (hap ab (by simp)) (hap am (by simp))
  have q1 : 4 * (O : Int) / 4 = O := by omega
  refine ⟨by simp, (come_enter bb bm O 1 ⟨1, 0, 0, 0, most, O, T, C⟩ Db O (4 * (O : Int)) (by omega) (by omega) (by omega) (by omega) (by first | decide | (simp; done) | (simp; omega)) (by first | decide | (simp; done) | (simp; omega)) (by show 0 < most; omega) (by show 4 * (O : Int) % 4 = 0; omega) (by first | decide | (simp; done) | (simp; omega)) (by show 4 * (O : Int) / 4 < C; omega) (.inl (by omega)) (by omega) w2 db2).mono ?_⟩
  rintro e w3 ⟨u, rfl, o3, A3, t3⟩
  have o3' : w3.ownsRow w2.heap.size 3 1 u 1 [.int .i64 (4 * ((O : Int) + ((0 : Nat) : Int)) + 0)] := o3
  obtain ⟨a', cap, rfl, hcs⟩ := own_cells o3'
  obtain ⟨g, rfl, hg1, hg2, hc⟩ := hcs.resolve_left (by omega)
  have hc0 := hc 0 (by omega)
  have s2 := t.size
  have da3 : DoorsAt w3 ab am (O + 1) ⟨0, 1, ((O + 1 : Nat) : Int), M, 5, 0, 0, 5⟩ (Da.put (.int .i64 (4 * (O : Int))) (.agg [])) := by
    have := doors_past A2 (t3.other ab (by omega) (by omega) (by omega)) (t3.other am (by omega) (by omega) (by omega))
    simpa using this
  refine ⟨g, cap, rfl, by simpa using hc0, ⟨_, _, { h.step hi with da := da3, db := A3, rp := ((t3.other pb (by omega) (by omega) (by omega)).trans (t.other pb (by omega) (by omega) (by omega))).trans h.rp, rq := ((t3.other qb (by omega) (by omega) (by omega)).trans (t.other qb (by omega) (by omega) (by omega))).trans h.rq, to := by omega, oi := by omega, om := by omega, ha := ?_, hb := ?_ }⟩, own_turned op2 t3 (hap bb (by simp)) (hap bm (by simp)), (t.below base (by omega) (by omega)).trans (t3.below base (by omega) (by omega))⟩
  · intro x
    rw [has_put Da h.da.map.isMap _ _ (by omega), h.ha x]
    constructor
    · rintro (e | ⟨t, h1, h2, h3⟩)
      · exact ⟨O, hto, by omega, e⟩
      · exact ⟨t, h1, by omega, h3⟩
    · rintro ⟨t, h1, h2, h3⟩
      by_cases e : t = O
      · subst e; exact .inl h3
      · exact .inr ⟨t, h1, by omega, h3⟩
  · intro x
    show Maps.has (Db.put (.int .i64 (4 * ((O : Int) + ((0 : Nat) : Int)) + 0)) (.agg [])) _ = true ↔ _
    rw [show 4 * ((O : Int) + ((0 : Nat) : Int)) + 0 = 4 * (O : Int) by omega, has_put Db h.db.map.isMap _ _ (by omega), h.hb x]
    constructor
    · rintro (e | ⟨t, h1, h2, h3⟩)
      · exact ⟨O, hto, by omega, e⟩
      · exact ⟨t, h1, by omega, h3⟩
    · rintro ⟨t, h1, h2, h3⟩
      by_cases e : t = O
      · subst e; exact .inl h3
      · exact .inr ⟨t, h1, by omega, h3⟩
theorem two_leave (h : Two w am ab bm bb pb qb base most i O T M C A L S U Da Db) (hi : i < 1000) (hf : T < O) (ho : OwnI base v G w) :
    Calls Try.prog 24 #[.pointer (some ⟨ab, 0, none⟩), .int .i64 (4 * (T : Int))] w fun e w2 => e = .returned (.int .i64 0) ∧ OwnI base v G w2 ∧
      Calls Try.prog 24 #[.pointer (some ⟨bb, 0, none⟩), .int .i64 (4 * (T : Int))] w2 fun e w3 => e = .returned (.int .i64 0) ∧
        (∃ Da Db, Two w3 am ab bm bb pb qb base most (i + 1) O (T + 1) M C A L S U Da Db) ∧ OwnI base v G w3 ∧ Below base w w3 := by
  have ho2 := h.order
  have hm0 := h.m0
  have hm1 := h.m1
  have hto := h.to
  have hoi := h.oi
  have hi0 := h.i0
  have hct := h.ct
  have hap := h.apart ho
  obtain ⟨l1, l2, l3⟩ := h.lts
  refine (leave_hit ab am O ⟨0, 1, O, M, 5, 0, 0, 5⟩ Da (4 * (T : Int)) (by first | decide | (simp; done) | (simp; omega)) (by first | decide | (simp; done) | (simp; omega)) (by first | decide | (simp; done) | (simp; omega)) (by omega) (by omega) ((h.ha _).2 ⟨T, Nat.le_refl _, hf, rfl⟩) w h.da).mono ?_
  rintro e w2 ⟨rfl, A2, t⟩
  have A2 : DoorsAt w2 ab am O ⟨0, 1, O, M, 5, 0, (if 4 * (T : Int) % 4 = 1 then (0 : Int) + 1 else 0), 5⟩ (Da.del (.int .i64 (4 * (T : Int)))) := A2
  rw [if_neg (by omega)] at A2
  have db2 : DoorsAt w2 bb bm O ⟨1, 0, 0, 0, most, O, T, C⟩ Db := doors_past h.db (t.other bb (by omega) (by omega) (by omega)) (t.other bm (by omega) (by omega) (by omega))
  have op2 := own_turned ho t (hap ab (by simp)) (hap am (by simp))
  have s2 := t.size
  refine ⟨rfl, op2, (leave_hit bb bm O ⟨1, 0, 0, 0, most, O, T, C⟩ Db (4 * (T : Int)) (by show 0 < most; omega) (by show (0 : Int) ≤ T; omega) (by show (T : Int) ≤ _; omega) (by omega) (by omega) ((h.hb _).2 ⟨T, Nat.le_refl _, hf, rfl⟩) w2 db2).mono ?_⟩
  rintro e w3 ⟨rfl, A3, t3⟩
  have A3 : DoorsAt w3 bb bm O ⟨1, 0, 0, 0, most, O, (if 4 * (T : Int) % 4 = 0 then (T : Int) + 1 else T), C⟩ (Db.del (.int .i64 (4 * (T : Int)))) := A3
  rw [if_pos (by omega)] at A3
  have da3 := doors_past A2 (t3.other ab (by omega) (by omega) (by omega)) (t3.other am (by omega) (by omega) (by omega))
  refine ⟨rfl, ⟨_, _, { h.step hi with da := da3, db := A3, rp := ((t3.other pb (by omega) (by omega) (by omega)).trans (t.other pb (by omega) (by omega) (by omega))).trans h.rp, rq := ((t3.other qb (by omega) (by omega) (by omega)).trans (t.other qb (by omega) (by omega) (by omega))).trans h.rq, to := by omega, ct := by omega, ha := ?_, hb := ?_ }⟩, own_turned op2 t3 (hap bb (by simp)) (hap bm (by simp)), (t.below base (by omega) (by omega)).trans (t3.below base (by omega) (by omega))⟩
  · intro x
    rw [has_del, h.ha x]
    constructor
    · rintro ⟨h0, t, h1, h2, h3⟩
      exact ⟨t, by omega, h2, h3⟩
    · rintro ⟨t, h1, h2, h3⟩
      exact ⟨by omega, t, by omega, h2, h3⟩
  · intro x
    rw [has_del, h.hb x]
    constructor
    · rintro ⟨h0, t, h1, h2, h3⟩
      exact ⟨t, by omega, h2, h3⟩
    · rintro ⟨t, h1, h2, h3⟩
      exact ⟨by omega, t, by omega, h2, h3⟩
theorem own_row_set {b : Nat} {c : Array Value} {X : TypeId} (ho : OwnI base v G w) (R : RowSet w b X c w2) (h1 : v.ownBlock ≠ some b) : OwnI base v G w2 :=
  ho.kept (Nat.le_of_eq R.size.symm) (fun g hg hl => R.other g (by rintro rfl; exact h1 hg))
theorem Two.setP {A' S' L' U' : Int} (h : Two w am ab bm bb pb qb base most i O T M C A L S U Da Db) (R : RowSet w pb PT (purseC 100 100 0 0 A' S') w2) : DoorsAt w2 ab am O ⟨0, 1, O, M, 5, 0, 0, 5⟩ Da ∧ DoorsAt w2 bb bm O ⟨1, 0, 0, 0, most, O, T, C⟩ Db ∧ w2.heap[qb]? = some (.cells (purseC 100 L S U 0 0) PT (0, 0)) := by
  have ho2 := h.order
  exact ⟨doors_past h.da (R.other ab (by omega)) (R.other am (by omega)), doors_past h.db (R.other bb (by omega)) (R.other bm (by omega)), R.keep (by omega) h.rq⟩
theorem Two.setQ {c : Array Value} {A' S' : Int} (h1 : DoorsAt w ab am O ⟨0, 1, O, M, 5, 0, 0, 5⟩ Da) (h2 : DoorsAt w bb bm O ⟨1, 0, 0, 0, most, O, T, C⟩ Db) (h3 : w.heap[pb]? = some (.cells (purseC 100 100 0 0 A' S') PT (0, 0))) (ho2 : base ≤ am ∧ am < ab ∧ ab < bm ∧ bm < bb ∧ bb < pb ∧ pb < qb) (R : RowSet w qb PT c w2) :
    DoorsAt w2 ab am O ⟨0, 1, O, M, 5, 0, 0, 5⟩ Da ∧ DoorsAt w2 bb bm O ⟨1, 0, 0, 0, most, O, T, C⟩ Db ∧ w2.heap[pb]? = some (.cells (purseC 100 100 0 0 A' S') PT (0, 0)) :=
  ⟨doors_past h1 (R.other ab (by omega)) (R.other am (by omega)), doors_past h2 (R.other bb (by omega)) (R.other bm (by omega)), R.keep (by omega) h3⟩
/-- The other end's count of streams. -/
theorem two_grantD (h : Two w am ab bm bb pb qb base most i O T M C A L S U Da Db) (ho : OwnI base v G w) (C' : Int) (tt : Bool) (hC : (if most ≤ C - T then C else T + most) = C') (ht : (if most ≤ C - T then false else true) = tt) :
    Calls Try.prog 31 #[.pointer (some ⟨bb, 0, none⟩)] w fun e w2 => e = .returned (.tuple #[.int .i64 C', .bool tt]) ∧ Two w2 am ab bm bb pb qb base most i O T M C' A L S U Da Db ∧ OwnI base v G w2 ∧ Below base w w2 := by
  have ho2 := h.order
  have hm0 := h.m0
  have hm1 := h.m1
  have hto := h.to
  have hoi := h.oi
  have hi0 := h.i0
  have hct := h.ct
  have hmc := h.mc
  have hom := h.om
  refine (grantD_any bb bm ⟨1, 0, 0, 0, most, O, T, C⟩ (by show 0 < most; omega) hm1 (by show (0 : Int) ≤ T; omega) (by show (T : Int) ≤ _; omega) (by show 0 ≤ C; omega) (by show C ≤ _; omega) w h.db.row).mono ?_
  rintro e w2 ⟨rfl, R⟩
  have t : Turned bb bm w w2 := Turned.ofRow R
  have hap := h.apart ho
  have db2 : DoorsAt w2 bb bm O ⟨1, 0, 0, 0, most, O, T, if most ≤ C - T then C else T + most⟩ Db := ⟨R.row, owns_heap h.db.map (R.other bm (by omega)), h.db.ne⟩
  rw [hC] at db2
  refine ⟨by rw [← hC, ← ht], { h with da := doors_past h.da (R.other ab (by omega)) (R.other am (by omega)), db := db2, rp := R.keep (by omega) h.rp, rq := R.keep (by omega) h.rq, mc := ?_, ct := ?_ }, own_row_set ho R (hap bb (by simp)), t.below base (by omega) (by omega)⟩
  · rw [← hC]; split <;> omega
  · rw [← hC]; split <;> omega
theorem two_allowD (h : Two w am ab bm bb pb qb base most i O T M C A L S U Da Db) (ho : OwnI base v G w) (N : Int) (h1 : M ≤ N) (h2 : N ≤ C) :
    Calls Try.prog 22 #[.pointer (some ⟨ab, 0, none⟩), .int .i64 N] w fun e w2 => e = .returned (.tuple #[]) ∧ Two w2 am ab bm bb pb qb base most i O T N C A L S U Da Db ∧ OwnI base v G w2 ∧ Below base w w2 := by
  have ho2 := h.order
  have hm1 := h.m1
  have hto := h.to
  have hoi := h.oi
  have hi0 := h.i0
  have hct := h.ct
  have hom := h.om
  have hap := h.apart ho
  refine (allowD_any ab am ⟨0, 1, O, M, 5, 0, 0, 5⟩ (by show (0 : Int) < 5; decide) N w h.da.row).mono ?_
  rintro e w2 ⟨rfl, R⟩
  have e1 : max M (min N 1099511627776) = N := by omega
  have r2 : w2.heap[ab]? = some (.cells (doorsC am ⟨0, 1, O, max M (min N 1099511627776), 5, 0, 0, 5⟩) DT (0, 0)) := R.row
  rw [e1] at r2
  exact ⟨rfl, { h with da := ⟨r2, owns_heap h.da.map (R.other am (by omega)), h.da.ne⟩, db := doors_past h.db (R.other bb (by omega)) (R.other bm (by omega)), rp := R.keep (by omega) h.rp, rq := R.keep (by omega) h.rq, om := by omega, mc := h2 }, own_row_set ho R (hap ab (by simp)), R.below base (by omega)⟩
theorem Two.fitsP (h : Two w am ab bm bb pb qb base most i O T M C A L S U Da Db) : Fits 100 100 0 0 A S := by
  have := h.u0
  have := h.us
  have := h.sa
  have := h.al
  have := h.lu
  have := h.si
  have := h.i0
  exact ⟨by omega, by omega, by omega, by omega, by omega, by omega, by omega, by omega, by omega⟩
theorem Two.fitsQ (h : Two w am ab bm bb pb qb base most i O T M C A L S U Da Db) : Fits 100 L S U 0 0 := by
  have := h.u0
  have := h.us
  have := h.sa
  have := h.al
  have := h.lu
  have := h.si
  have := h.i0
  exact ⟨by omega, by omega, by omega, by omega, by omega, by omega, by omega, by omega, by omega⟩
theorem two_grantP (h : Two w am ab bm bb pb qb base most i O T M C A L S U Da Db) (ho : OwnI base v G w) (L' : Int) (tt : Bool) (hL : (if (50 : Int) ≤ L - U then L else U + 100) = L') (ht : (if (50 : Int) ≤ L - U then false else true) = tt) :
    Calls Try.prog 10 #[.pointer (some ⟨qb, 0, none⟩)] w fun e w2 => e = .returned (.tuple #[.int .i64 L', .bool tt]) ∧ Two w2 am ab bm bb pb qb base most i O T M C A L' S U Da Db ∧ OwnI base v G w2 ∧ Below base w w2 := by
  have ho2 := h.order
  have hap := h.apart ho
  have hal := h.al
  have hlu := h.lu
  refine (flow_grant qb 100 L S U 0 0 h.fitsQ w h.rq).mono ?_
  rintro e w2 ⟨rfl, R⟩
  have R' : RowSet w qb PT (purseC 100 (if (50 : Int) ≤ L - U then L else U + 100) S U 0 0) w2 := R
  rw [hL] at R'
  obtain ⟨d1, d2, d3⟩ := Two.setQ h.da h.db h.rp ho2 R'
  refine ⟨by rw [← hL, ← ht]; rfl, { h with da := d1, db := d2, rp := d3, rq := R'.row, al := ?_, lu := ?_ }, own_row_set ho R' (hap qb (by simp)), R'.below base (by omega)⟩
  · rw [← hL]; split <;> omega
  · rw [← hL]; split <;> omega
theorem two_allowP (h : Two w am ab bm bb pb qb base most i O T M C A L S U Da Db) (ho : OwnI base v G w) (N : Int) (h1 : A ≤ N) (h2 : N ≤ L) :
    Calls Try.prog 9 #[.pointer (some ⟨pb, 0, none⟩), .int .i64 N] w fun e w2 => e = .returned (.tuple #[]) ∧ Two w2 am ab bm bb pb qb base most i O T M C N L S U Da Db ∧ OwnI base v G w2 ∧ Below base w w2 := by
  have ho2 := h.order
  have hap := h.apart ho
  have f1 := h.fitsP
  have hsa := h.sa
  have hsi := h.si
  have hi0 := h.i0
  have hlu := h.lu
  have hus := h.us
  refine (flow_allow pb 100 100 0 0 A S N f1 w h.rp).mono ?_
  rintro e w2 ⟨rfl, R⟩
  have e1 : max A (min N 1099511627776) = N := by omega
  have R' : RowSet w pb PT (purseC 100 100 0 0 (max A (min N 1099511627776)) S) w2 := R
  rw [e1] at R'
  obtain ⟨d1, d2, d3⟩ := h.setP (L' := 0) (U' := 0) R'
  exact ⟨rfl, { h with da := d1, db := d2, rp := R'.row, rq := d3, sa := by omega, al := h2 }, own_row_set ho R' (hap pb (by simp)), R'.below base (by omega)⟩
theorem two_left (h : Two w am ab bm bb pb qb base most i O T M C A L S U Da Db) (ho : OwnI base v G w) :
    Calls Try.prog 12 #[.pointer (some ⟨pb, 0, none⟩)] w fun e w2 => e = .returned (.int .i64 (A - S)) ∧ Two w2 am ab bm bb pb qb base most i O T M C A L S U Da Db ∧ OwnI base v G w2 ∧ Below base w w2 := by
  refine (left_any pb 100 100 0 0 A S h.fitsP w h.rp).mono ?_
  rintro e w2 ⟨rfl, k, rfl⟩
  exact ⟨rfl, h.keep (fun _ _ => rfl), ho.kept (Nat.le_refl _) (fun _ _ _ => rfl), below_drewN (Below.refl _ _) k⟩
theorem two_pay (h : Two w am ab bm bb pb qb base most i O T M C A L S U Da Db) (hi : i < 1000) (ho : OwnI base v G w) (X : Int) (h0 : 0 ≤ X) (h1 : X ≤ A - S) (h60 : X ≤ 60) :
    Calls Try.prog 14 #[.pointer (some ⟨pb, 0, none⟩), .int .i64 X] w fun e w2 => e = .returned (.int .i64 0) ∧
      Calls Try.prog 13 #[.pointer (some ⟨qb, 0, none⟩), .int .i64 X] w2 fun e w3 => e = .returned (.int .i64 0) ∧ Two w3 am ab bm bb pb qb base most (i + 1) O T M C A L (S + X) U Da Db ∧ OwnI base v G w3 ∧ Below base w w3 := by
  have ho2 := h.order
  have hap := h.apart ho
  have hal := h.al
  have hus := h.us
  have hsi := h.si
  have hoi := h.oi
  refine (flow_spend pb 100 100 0 0 A S X h.fitsP w h.rp).mono ?_
  rintro e w2 ⟨rfl, R⟩
  have e1 : spendE A S X = 0 := by unfold spendE; rw [if_neg (by omega), if_neg (by omega)]
  rw [e1, if_pos rfl] at R
  obtain ⟨d1, d2, d3⟩ := h.setP (L' := 0) (U' := 0) R
  refine ⟨by rw [e1], (flow_take qb 100 L S U 0 0 X h.fitsQ w2 d3).mono ?_⟩
  rintro e w3 ⟨rfl, R3⟩
  have e2 : takeE L S X = 0 := by unfold takeE; rw [if_neg (by omega), if_neg (by omega)]
  rw [e2, if_pos rfl] at R3
  obtain ⟨f1, f2, f3⟩ := Two.setQ d1 d2 R.row ho2 R3
  have o2 := own_row_set ho R (hap pb (by simp))
  exact ⟨by rw [e2], { h.step hi with da := f1, db := f2, rp := f3, rq := R3.row, us := by omega, sa := by omega, si := by omega }, own_row_set o2 R3 (hap qb (by simp)), (R.below base (by omega)).trans (R3.below base (by omega))⟩
theorem two_use (h : Two w am ab bm bb pb qb base most i O T M C A L S U Da Db) (ho : OwnI base v G w) (Y : Int) (h0 : 0 ≤ Y) (h1 : Y ≤ S - U) :
    Calls Try.prog 17 #[.pointer (some ⟨qb, 0, none⟩), .int .i64 Y] w fun e w2 => e = .returned (.int .i64 0) ∧ Two w2 am ab bm bb pb qb base most i O T M C A L S (U + Y) Da Db ∧ OwnI base v G w2 ∧ Below base w w2 := by
  have ho2 := h.order
  have hap := h.apart ho
  have hlu := h.lu
  have hu0 := h.u0
  refine (flow_use qb 100 L S U 0 0 Y h.fitsQ w h.rq).mono ?_
  rintro e w2 ⟨rfl, R⟩
  have e1 : useE S U Y = 0 := by unfold useE; rw [if_neg (by omega)]
  rw [e1, if_pos rfl] at R
  obtain ⟨f1, f2, f3⟩ := Two.setQ h.da h.db h.rp ho2 R
  exact ⟨by rw [e1], { h with da := f1, db := f2, rp := f3, rq := R.row, u0 := by omega, us := by omega, lu := by omega }, own_row_set ho R (hap qb (by simp)), R.below base (by omega)⟩
/-- A new row beside. -/
theorem own_new (h : OwnI base v G w) (o : Obj) : OwnI base v G (w.alloc o) := h.kept (by simp) (fun g _ hl => heap_alloc_old w o hl)
theorem two_new (h : Two w am ab bm bb pb qb base most i O T M C A L S U Da Db) (o : Obj) : Two (w.alloc o) am ab bm bb pb qb base most i O T M C A L S U Da Db := by
  obtain ⟨l1, l2, l3⟩ := h.lts
  have ho2 := h.order
  exact h.keep (fun k hk => heap_alloc_old w o (by omega))
theorem grew_below {w0 w4 : World} {v' : Value} {o : Obj} (hb : Below base w0 w) (ho : OwnI base v G w) (g : GrewI (w.alloc o) w4 v v') : Below base w0 w4 :=
  (hb.alloc ho.base o).trans (g.below base (by have := ho.base; simp; omega) (fun k hk => (ho.lt hk).1))
theorem own_first {g o n c : Nat} (h : OwnI base (.slice (some ⟨g, o, none⟩) n c) (idsT T O) w) (hf : T < O) : w.cell? ⟨g, o, none⟩ = some (.int .i64 (4 * (T : Int))) := by
  rcases h.row with ⟨h1, _⟩ | ⟨g', o', cap, cur, h1, hB, hg, h2, h3, h4, h5⟩
  · cases h1
  · injection h1 with h1 _ _
    injection h1 with h1
    injection h1 with h1 h6 _
    subst h1 h6
    rw [cell_of_row _ _ _ _ _ _ hg]
    have := h5 0 (4 * (T : Int)) (by rw [idsT_at (by omega)]; simp)
    simpa using this
theorem own_addr {a : Option Addr} {n c : Nat} (h : OwnI base (.slice a n c) (idsT T O) w) (hf : T < O) : ∃ g o, a = some ⟨g, o, none⟩ := by
  rcases h.row with ⟨h1, h0⟩ | ⟨g', o', cap, cur, h1, _⟩
  · have := idsT_len T O
    rw [h0] at this
    simp at this
    omega
  · injection h1 with h1 _ _
    exact ⟨g', o', h1⟩
theorem sliced_same {x v1 v2 : Value} {k : Int} (h1 : ∀ w' : World, (Instr.sliceAt 42 x (some (.int .i64 k)) none none).run Try.prog w' = .ok v1 w') (h2 : ∀ w' : World, (Instr.sliceAt 42 x (some (.int .i64 k)) none none).run Try.prog w' = .ok v2 w') (w : World) : v1 = v2 := by
  have h := (h1 w).symm.trans (h2 w)
  injection h
end
theorem two_start {w : World} {am ab bm bb pb qb base : Nat} {W : Int} (h1 : 1 ≤ W) (h2 : W ≤ 32) (ha : w.heap[ab]? = some (.cells (doorsC am ⟨0, 1, 0, W, 5, 0, 0, 5⟩) DT (0, 0))) (hma : w.heap[am]? = some (.map #[] 0)) (hb : w.heap[bb]? = some (.cells (doorsC bm ⟨1, 0, 0, 0, W, 0, 0, W⟩) DT (0, 0))) (hmb : w.heap[bm]? = some (.map #[] 0))
    (hp : w.heap[pb]? = some (.cells (purseC 100 100 0 0 100 0) PT (0, 0))) (hq : w.heap[qb]? = some (.cells (purseC 100 100 0 0 0 0) PT (0, 0))) (ho : base ≤ am ∧ am < ab ∧ ab < bm ∧ bm < bb ∧ bb < pb ∧ pb < qb) :
    Two w am ab bm bb pb qb base W 0 0 0 W W 100 100 0 0 (.map []) (.map []) :=
  { da := ⟨ha, owns_empty hma, by omega⟩, db := ⟨hb, owns_empty hmb, by omega⟩, rp := hp, rq := hq, order := ho, m0 := h1, m1 := h2, to := Nat.le_refl _, oi := Nat.le_refl _, i0 := by omega, om := by omega, mc := by omega, ct := by omega, u0 := by omega, us := by omega, sa := by omega, al := by omega, lu := by omega, si := by omega, ha := fun x => ⟨fun h => by simp [Maps.has] at h, fun ⟨t, h1, h2, _⟩ => by omega⟩, hb := fun x => ⟨fun h => by simp [Maps.has] at h, fun ⟨t, h1, h2, _⟩ => by omega⟩ }
end Go.Proofs.Ytjaneododongeab
