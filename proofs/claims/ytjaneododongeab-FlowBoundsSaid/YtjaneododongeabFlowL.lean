/-
  AN END THAT COUNTS ITSELF WHAT IS THERE, AND WHAT WAITS.
-/
import Derived.Test.YtjaneododongeabFlowK
import Derived.Deep.RegionHeld3
namespace Go.Proofs.Ytjaneododongeab
open Go Go.RowKit Go.BigFrame Go.Maps Go.WideElems Go.ChangeMaps Go.MapKept Go.WideShapes
set_option linter.unusedSimpArgs false
set_option linter.unusedVariables false
def idsN (s k : Nat) : List Int := (List.range' s k).map fun (t : Nat) => 4 * (t : Int)
theorem idsN_mem {s k : Nat} {x : Int} : x ∈ idsN s k ↔ ∃ t : Nat, s ≤ t ∧ t < s + k ∧ x = 4 * (t : Int) := by
  unfold idsN
  rw [List.mem_map]
  constructor
  · rintro ⟨t, ht, rfl⟩
    rw [List.mem_range'_1] at ht
    exact ⟨t, ht.1, ht.2, rfl⟩
  · rintro ⟨t, h1, h2, rfl⟩
    exact ⟨t, List.mem_range'_1.2 ⟨h1, h2⟩, rfl⟩
theorem idsN_nodup (s k : Nat) : (idsN s k).Nodup := by
  unfold idsN
  refine List.Pairwise.map _ ?_ (List.nodup_range' (s := s) (n := k) (step := 1))
  intro a b h e
  exact h (by omega)
theorem idsN_len (s k : Nat) : (idsN s k).length = k := by simp [idsN]
theorem idsL_cells (s : Nat) : ∀ k, idsL 0 (s : Int) k = cellsI (idsN s k)
  | 0 => rfl
  | k + 1 => by
    show idsL 0 (s : Int) k ++ [_] = _
    rw [idsL_cells s k]
    unfold idsN cellsI
    rw [List.range'_concat]
    simp
theorem ownI_of_row {w : World} {B : Nat} {v : Value} {G : List Int} (hB : B ≤ w.heap.size) (h : w.ownsRow B 3 1 v G.length (cellsI G)) : OwnI B v G w := by
  refine ⟨?_, hB⟩
  obtain ⟨hl, ⟨rfl, h0⟩ | ⟨g, cap, cur, rfl, hg, hr, h2, hm, hs, ht⟩⟩ := h
  · exact .inl ⟨rfl, List.length_eq_zero_iff.1 h0⟩
  · refine .inr ⟨g, 0, cap, cur, rfl, hg, hr, h2, hm, by omega, fun i x hx => ?_⟩
    have hi := (List.getElem?_eq_some_iff.1 hx).1
    have := congrArg (·[i]?) ht
    simp only [Nat.mul_one, List.getElem?_take, hi, if_true] at this
    rw [Array.getElem?_toList, cellsI_get, hx] at this
    rw [Nat.zero_add]
    exact this
theorem putsN (D : DataW Unit) (hD : IsMap D) (S : Nat) (hS : S ≤ 100000) : ∀ (k : Nat) (hk : k ≤ 1000) (x : Int), Maps.has (putsD D 0 (S : Int) k) (.int .i64 x) = true ↔ Maps.has D (.int .i64 x) = true ∨ x ∈ idsN S k
  | 0, _, x => by simp [putsD, idsN]
  | k + 1, hk, x => by
    show Maps.has ((putsD D 0 (S : Int) k).put (.int .i64 (4 * ((S : Int) + (k : Int)) + 0)) (.agg [])) _ = true ↔ _
    rw [has_put _ (putsD_isMap D hD _ _ k) _ _ (by omega), putsN D hD S hS k (by omega) x, idsN_mem, idsN_mem]
    constructor
    · rintro (h | h | ⟨t, h1, h2, h3⟩)
      · exact .inr ⟨S + k, by omega, by omega, by omega⟩
      · exact .inl h
      · exact .inr ⟨t, h1, by omega, h3⟩
    · rintro (h | ⟨t, h1, h2, h3⟩)
      · exact .inr (.inl h)
      · by_cases e : t = S + k
        · exact .inl (by omega)
        · exact .inr (.inr ⟨t, h1, by omega, h3⟩)
structure Bnd (w : World) (m b pb base : Nat) (most Wn : Int) (i S T : Nat) (C Lm Cm U : Int) (D : DataW Unit) (L : List Int) : Prop where
  da : DoorsAt w b m S ⟨1, 0, 0, 0, most, S, T, C⟩ D
  rp : w.heap[pb]? = some (.cells (purseC Wn Lm Cm U 0 0) PT (0, 0))
  order : base ≤ m ∧ m < b ∧ b < pb
  m0 : 1 ≤ most
  m1 : most ≤ 32
  w0 : 1 ≤ Wn
  w1 : Wn ≤ 65536
  ts : T ≤ S
  sc : (S : Int) ≤ C
  ct : C ≤ T + most
  ti : T ≤ i
  i0 : i ≤ 1000
  u0 : 0 ≤ U
  uc : U ≤ Cm
  cl : Cm ≤ Lm
  lu : Lm ≤ U + Wn
  ui : U ≤ 50000 * (i : Int)
  len : L.length + T = S
  nd : L.Nodup
  has : ∀ x : Int, Maps.has D (.int .i64 x) = true ↔ x ∈ L
  mem : ∀ x ∈ L, ∃ t : Nat, t < S ∧ x = 4 * (t : Int)
section
variable {w w2 : World} {m b pb base i S T : Nat} {most Wn C Lm Cm U : Int} {D : DataW Unit} {L G : List Int} {v : Value}
theorem Bnd.step (h : Bnd w m b pb base most Wn i S T C Lm Cm U D L) (hi : i < 1000) : Bnd w m b pb base most Wn (i + 1) S T C Lm Cm U D L := by
  have := h.ti
  have := h.ui
  exact { h with ti := by omega, i0 := by omega, ui := by omega }
theorem Bnd.lts (h : Bnd w m b pb base most Wn i S T C Lm Cm U D L) : b < w.heap.size ∧ pb < w.heap.size := ⟨lt_row h.da.row, lt_row h.rp⟩
theorem Bnd.keep (h : Bnd w m b pb base most Wn i S T C Lm Cm U D L) (hk : ∀ k, k = m ∨ k = b ∨ k = pb → w2.heap[k]? = w.heap[k]?) : Bnd w2 m b pb base most Wn i S T C Lm Cm U D L :=
  { h with da := doors_past h.da (hk b (by simp)) (hk m (by simp)), rp := (hk pb (by simp)).trans h.rp }
theorem Bnd.apart (h : Bnd w m b pb base most Wn i S T C Lm Cm U D L) (ho : OwnI base v G w) : ∀ k, k = m ∨ k = b ∨ k = pb → v.ownBlock ≠ some k := by
  have e1 : DT ≠ 3 := by decide
  have e2 : PT ≠ 3 := by decide
  rintro k (rfl | rfl | rfl)
  · obtain ⟨es, c, hq, _⟩ := h.da.map; exact ownI_ne ho hq (fun cur e => by cases e)
  · exact ownI_ne ho h.da.row (fun cur => row_ne_int e1)
  · exact ownI_ne ho h.rp (fun cur => row_ne_int e2)
theorem Bnd.new (h : Bnd w m b pb base most Wn i S T C Lm Cm U D L) (o : Obj) : Bnd (w.alloc o) m b pb base most Wn i S T C Lm Cm U D L := by
  obtain ⟨l1, l2⟩ := h.lts
  have ho2 := h.order
  exact h.keep (fun k hk => heap_alloc_old w o (by omega))
theorem Bnd.grew {v' : Value} (h : Bnd w m b pb base most Wn i S T C Lm Cm U D L) (ho : OwnI base v G w) (g : GrewI w w2 v v') : Bnd w2 m b pb base most Wn i S T C Lm Cm U D L := by
  obtain ⟨l1, l2⟩ := h.lts
  have ho2 := h.order
  exact h.keep (fun k hk => g.block k (by omega) (h.apart ho k hk))
theorem Bnd.fits (h : Bnd w m b pb base most Wn i S T C Lm Cm U D L) : Fits Wn Lm Cm U 0 0 := by
  have := h.u0
  have := h.uc
  have := h.cl
  have := h.lu
  have := h.ui
  have := h.w0
  have := h.w1
  have := h.i0
  exact ⟨by omega, by omega, by omega, by omega, by omega, by omega, by omega, by omega, by omega⟩
theorem bnd_flow (h : Bnd w m b pb base most Wn i S T C Lm Cm U D L) (at_ : Int) (h0 : 0 ≤ at_) (h1 : at_ < 200) (hf : C ≤ at_) :
    Calls Try.prog 23 #[.pointer (some ⟨b, 0, none⟩), .int .i64 (4 * at_)] w fun e w2 => e = .returned (.tuple #[.slice none 0 0, .int .i64 11]) ∧ w = w2 := by
  have hm0 := h.m0
  exact come_flow b m S ⟨1, 0, 0, 0, most, S, T, C⟩ D (4 * at_) (by omega) (by omega) (by show 0 < most; omega) (by show 4 * at_ % 4 = 0; omega) (by simp) (by show C ≤ 4 * at_ / 4; omega) w h.da
theorem bnd_come (h : Bnd w m b pb base most Wn i S T C Lm Cm U D L) (hi : i < 1000) (ho : OwnI base v L w) (at_ : Int) (h0 : 0 ≤ at_) (h1 : at_ < 200) (hf : at_ < C) :
    Calls Try.prog 23 #[.pointer (some ⟨b, 0, none⟩), .int .i64 (4 * at_)] w fun e w2 => ∃ (u : Value) (k : Nat), k ≤ 200 ∧ e = .returned (.tuple #[u, .int .i64 0]) ∧ OwnI base u (idsN S k) w2 ∧ OwnI base v L w2 ∧ (∃ D', Bnd w2 m b pb base most Wn (i + 1) (S + k) T C Lm Cm U D' (L ++ idsN S k)) ∧ Below base w w2 := by
  have ho2 := h.order
  have hm0 := h.m0
  have hm1 := h.m1
  have hts := h.ts
  have hti := h.ti
  have hi0 := h.i0
  have hsc := h.sc
  have hct := h.ct
  have hap := h.apart ho
  obtain ⟨l1, l2⟩ := h.lts
  obtain ⟨k, hk⟩ : ∃ k : Nat, (S : Int) + (k : Int) = 4 * at_ / 4 + 1 ∨ k = 0 ∧ 4 * at_ / 4 < S := by
    by_cases e : at_ < S
    · exact ⟨0, .inr ⟨rfl, by omega⟩⟩
    · exact ⟨(at_ + 1 - S).toNat, .inl (by omega)⟩
  have hk2 : k ≤ 200 := by omega
  refine (come_enter b m S k ⟨1, 0, 0, 0, most, S, T, C⟩ D S (4 * at_) (by omega) (by omega) (by omega) (by omega) (by simp) (by simp) (by show 0 < most; omega) (by show 4 * at_ % 4 = 0; omega) (by simp) (by show 4 * at_ / 4 < C; omega) hk (by omega) w h.da).mono ?_
  rintro e w2 ⟨u, rfl, o2, A2, t⟩
  have hsz := t.size
  have hb := ho.base
  have o2' : w2.ownsRow w.heap.size 3 1 u k (idsL 0 (S : Int) k) := o2
  rw [idsL_cells] at o2'
  have oI := ownI_of_row (B := w.heap.size) (by omega) (by rw [idsN_len]; exact o2')
  refine ⟨u, k, hk2, rfl, ⟨?_, by omega⟩, own_turned ho t (hap b (by simp)) (hap m (by simp)), ⟨_, { h.step hi with da := (by simpa using A2), rp := (t.other pb l2 (by omega) (by omega)).trans h.rp, ts := by omega, sc := by omega, len := ?_, nd := ?_, has := ?_, mem := ?_ }⟩, t.below base (by omega) (by omega)⟩
  · rcases oI.row with h1 | ⟨g, o, cap, cur, q1, q2, q3⟩
    · exact .inl h1
    · exact .inr ⟨g, o, cap, cur, q1, by omega, q3⟩
  · have := h.len
    rw [List.length_append, idsN_len]; omega
  · rw [List.nodup_append]
    refine ⟨h.nd, idsN_nodup S k, fun x hx y hy e => ?_⟩
    subst e
    obtain ⟨t1, h1, h2⟩ := h.mem x hx
    obtain ⟨t2, h3, h4, h5⟩ := idsN_mem.1 hy
    omega
  · intro x
    have := putsN D h.da.map.isMap S (by omega) k (by omega) x
    show Maps.has (putsD D 0 (S : Int) k) (.int .i64 x) = true ↔ _
    rw [this, h.has x, List.mem_append]
  · intro x hx
    rcases List.mem_append.1 hx with hx | hx
    · obtain ⟨t1, h1, h2⟩ := h.mem x hx
      exact ⟨t1, by omega, h2⟩
    · obtain ⟨t2, h3, h4, h5⟩ := idsN_mem.1 hx
      exact ⟨t2, h4, h5⟩
theorem bnd_leave (h : Bnd w m b pb base most Wn i S T C Lm Cm U D L) (hi : i < 1000) (ho : OwnI base v L w) (k : Nat) (hk : k < L.length) :
    Calls Try.prog 24 #[.pointer (some ⟨b, 0, none⟩), .int .i64 L[k]] w fun e w2 => e = .returned (.int .i64 0) ∧ OwnI base v L w2 ∧ (∃ D', Bnd w2 m b pb base most Wn (i + 1) S (T + 1) C Lm Cm U D' (L.take k ++ L.drop (k + 1))) ∧ Below base w w2 := by
  have ho2 := h.order
  have hm0 := h.m0
  have hts := h.ts
  have hti := h.ti
  have hi0 := h.i0
  have hct := h.ct
  have hlen := h.len
  have hm1 := h.m1
  have hap := h.apart ho
  obtain ⟨l1, l2⟩ := h.lts
  have hx : L[k] ∈ L := List.getElem_mem hk
  obtain ⟨t0, h1, h2⟩ := h.mem _ hx
  have hsc := h.sc
  have e1 : L.take k ++ L.drop (k + 1) = L.eraseIdx k := (List.eraseIdx_eq_take_drop_succ ..).symm
  have e2 : L.eraseIdx k = L.erase L[k] := (List.erase_eq_eraseIdx_of_idxOf (List.Nodup.idxOf_getElem h.nd k hk)).symm
  rw [e1, e2]
  generalize hX : L[k] = X at *
  refine (leave_hit b m S ⟨1, 0, 0, 0, most, S, T, C⟩ D X (by show 0 < most; omega) (by show (0 : Int) ≤ T; omega) (by show (T : Int) ≤ _; omega) (by omega) (by omega) ((h.has _).2 hx) w h.da).mono ?_
  rintro e w2 ⟨rfl, A2, t⟩
  have A2 : DoorsAt w2 b m S ⟨1, 0, 0, 0, most, S, (if X % 4 = 0 then (T : Int) + 1 else T), C⟩ (D.del (.int .i64 X)) := A2
  rw [if_pos (by omega)] at A2
  refine ⟨rfl, own_turned ho t (hap b (by simp)) (hap m (by simp)), ⟨_, { h.step hi with da := (by simpa using A2), rp := (t.other pb l2 (by omega) (by omega)).trans h.rp, ts := by omega, ct := by omega, ti := by omega, len := ?_, nd := h.nd.erase _, has := ?_, mem := ?_ }⟩, t.below base (by omega) (by omega)⟩
  · rw [List.length_erase_of_mem hx]; omega
  · intro x
    rw [has_del, h.has x, List.Nodup.mem_erase_iff h.nd]
  · intro x hx'
    exact h.mem x (List.mem_of_mem_erase hx')
theorem bnd_grantD (h : Bnd w m b pb base most Wn i S T C Lm Cm U D L) (ho : OwnI base v L w) :
    Calls Try.prog 31 #[.pointer (some ⟨b, 0, none⟩)] w fun e w2 => ∃ (x : Int) (y : Bool), e = .returned (.tuple #[.int .i64 x, .bool y]) ∧ (∃ C', Bnd w2 m b pb base most Wn i S T C' Lm Cm U D L) ∧ OwnI base v L w2 ∧ Below base w w2 := by
  have ho2 := h.order
  have hm0 := h.m0
  have hm1 := h.m1
  have hts := h.ts
  have hti := h.ti
  have hi0 := h.i0
  have hsc := h.sc
  have hct := h.ct
  have hap := h.apart ho
  refine (grantD_any b m ⟨1, 0, 0, 0, most, S, T, C⟩ (by show 0 < most; omega) hm1 (by show (0 : Int) ≤ T; omega) (by show (T : Int) ≤ _; omega) (by show 0 ≤ C; omega) (by show C ≤ _; omega) w h.da.row).mono ?_
  rintro e w2 ⟨rfl, R⟩
  have db2 : DoorsAt w2 b m S ⟨1, 0, 0, 0, most, S, T, if most ≤ C - T then C else T + most⟩ D := ⟨R.row, owns_heap h.da.map (R.other m (by omega)), h.da.ne⟩
  refine ⟨_, _, rfl, ⟨_, { h with da := db2, rp := R.keep (by omega) h.rp, sc := ?_, ct := ?_ }⟩, own_row_set ho R (hap b (by simp)), R.below base (by omega)⟩
  · split <;> omega
  · split <;> omega
theorem Bnd.set {c : Array Value} (h : Bnd w m b pb base most Wn i S T C Lm Cm U D L) (R : RowSet w pb PT c w2) : DoorsAt w2 b m S ⟨1, 0, 0, 0, most, S, T, C⟩ D := by
  have ho2 := h.order
  exact doors_past h.da (R.other b (by omega)) (R.other m (by omega))
theorem bnd_grantP (h : Bnd w m b pb base most Wn i S T C Lm Cm U D L) (ho : OwnI base v L w) :
    Calls Try.prog 10 #[.pointer (some ⟨pb, 0, none⟩)] w fun e w2 => ∃ (x : Int) (y : Bool), e = .returned (.tuple #[.int .i64 x, .bool y]) ∧ (∃ Lm', Bnd w2 m b pb base most Wn i S T C Lm' Cm U D L) ∧ OwnI base v L w2 ∧ Below base w w2 := by
  have ho2 := h.order
  have hap := h.apart ho
  have hcl := h.cl
  have hlu := h.lu
  have huc := h.uc
  have hw0 := h.w0
  refine (flow_grant pb Wn Lm Cm U 0 0 h.fits w h.rp).mono ?_
  rintro e w2 ⟨rfl, R⟩
  refine ⟨_, _, rfl, ⟨_, { h with da := h.set R, rp := R.row, cl := ?_, lu := ?_ }⟩, own_row_set ho R (hap pb (by simp)), R.below base (by omega)⟩
  · split <;> omega
  · split <;> omega
theorem bnd_take (h : Bnd w m b pb base most Wn i S T C Lm Cm U D L) (ho : OwnI base v L w) (n : Int) (h0 : 0 ≤ n) (E : Int) (hE : (if n > Lm - Cm then (11 : Int) else 0) = E) (X : Int) (hX : (if n > Lm - Cm then Cm else Cm + n) = X) :
    Calls Try.prog 13 #[.pointer (some ⟨pb, 0, none⟩), .int .i64 n] w fun e w2 => e = .returned (.int .i64 E) ∧ Bnd w2 m b pb base most Wn i S T C Lm X U D L ∧ OwnI base v L w2 ∧ Below base w w2 := by
  have ho2 := h.order
  have hap := h.apart ho
  have hcl := h.cl
  have huc := h.uc
  refine (flow_take pb Wn Lm Cm U 0 0 n h.fits w h.rp).mono ?_
  rintro e w2 ⟨rfl, R⟩
  have e1 : takeE Lm Cm n = E := by unfold takeE; rw [if_neg (by omega)]; exact hE
  have e2 : (if takeE Lm Cm n = 0 then Cm + n else Cm) = X := by
    rw [e1, ← hX, ← hE]
    by_cases hc : n > Lm - Cm
    · rw [if_pos hc, if_pos hc]; rfl
    · rw [if_neg hc, if_neg hc]; rfl
  rw [e2] at R
  exact ⟨by rw [e1], { h with da := h.set R, rp := R.row, uc := (by rw [← hX]; split <;> omega), cl := (by rw [← hX]; split <;> omega) }, own_row_set ho R (hap pb (by simp)), R.below base (by omega)⟩
theorem bnd_use (h : Bnd w m b pb base most Wn i S T C Lm Cm U D L) (hi : i < 1000) (ho : OwnI base v L w) (n : Int) (h0 : 0 ≤ n) (h1 : n ≤ 50000) (E : Int) (hE : (if n > Cm - U then (1 : Int) else 0) = E) (X : Int) (hX : (if n > Cm - U then U else U + n) = X) :
    Calls Try.prog 17 #[.pointer (some ⟨pb, 0, none⟩), .int .i64 n] w fun e w2 => e = .returned (.int .i64 E) ∧ Bnd w2 m b pb base most Wn (i + 1) S T C Lm Cm X D L ∧ OwnI base v L w2 ∧ Below base w w2 := by
  have ho2 := h.order
  have hap := h.apart ho
  have hcl := h.cl
  have hlu := h.lu
  have huc := h.uc
  have hui := h.ui
  have hu0 := h.u0
  refine (flow_use pb Wn Lm Cm U 0 0 n h.fits w h.rp).mono ?_
  rintro e w2 ⟨rfl, R⟩
  have e1 : useE Cm U n = E := by
    unfold useE
    rw [← hE]
    by_cases hc : n > Cm - U
    · rw [if_pos hc, if_pos (.inr hc)]
    · rw [if_neg hc, if_neg (by omega)]
  have e2 : (if useE Cm U n = 0 then U + n else U) = X := by
    rw [e1, ← hX, ← hE]
    by_cases hc : n > Cm - U
    · rw [if_pos hc, if_pos hc]; rfl
    · rw [if_neg hc, if_neg hc]; rfl
  rw [e2] at R
  exact ⟨by rw [e1], { h.step hi with da := h.set R, rp := R.row, u0 := (by rw [← hX]; split <;> omega), uc := (by rw [← hX]; split <;> omega), lu := (by rw [← hX]; split <;> omega), ui := (by rw [← hX]; split <;> omega) }, own_row_set ho R (hap pb (by simp)), R.below base (by omega)⟩
end
theorem own_empty {w : World} {base : Nat} (hB : base ≤ w.heap.size) : OwnI base (.slice (some ⟨w.heap.size, 0, none⟩) 0 0) [] (w.alloc (.cells #[] 3)) :=
  ⟨.inr ⟨w.heap.size, 0, 0, #[], rfl, hB, heap_alloc_last _ _, Nat.le_refl _, Nat.zero_le _, Nat.le_refl _, fun i x h => by simp at h⟩, by simp; omega⟩
theorem own_len {w : World} {base : Nat} {v : Value} {G : List Int} (h : OwnI base v G w) : ∃ a n cap, v = .slice a n cap ∧ G.length = n := by
  obtain ⟨a, cap, rfl⟩ := h.slice
  exact ⟨_, _, _, rfl, rfl⟩
theorem own_drew {w : World} {base : Nat} {v : Value} {G : List Int} (h : OwnI base v G w) : OwnI base v G w.drew := h.kept (Nat.le_refl _) (fun _ _ _ => rfl)
theorem own_ids {w : World} {base g o n c : Nat} {L : List Int} (h : OwnI base (.slice (some ⟨g, o, none⟩) n c) L w) : n = L.length ∧ n ≤ c ∧ g < w.heap.size ∧ ∀ i x, L[i]? = some x → w.cell? ⟨g, o + i, none⟩ = some (.int .i64 x) := by
  rcases h.row with ⟨h1, _⟩ | ⟨g', o', cap, cur, h1, hB, hg, h2, h3, h4, h5⟩
  · cases h1
  · injection h1 with h1 h6 h7
    injection h1 with h1
    injection h1 with h1 h8 _
    subst h1 h8 h6 h7
    exact ⟨rfl, h2, lt_row hg, fun i x hx => by rw [cell_of_row _ _ _ _ _ _ hg]; exact h5 i x hx⟩
theorem run_uptoI (b o k m c : Nat) (hk : k ≤ c) (w : World) : (Instr.sliceAt 42 (.slice (some ⟨b, o, none⟩) m c) none (some (.int .i64 (k : Int))) none).run Try.prog w = .ok (.slice (some ⟨b, o, none⟩) k c) w := by
  have hu : Try.prog.underlying 42 = some (.slice (Try.prog.elem 42)) := by kernel_rfl
  have a0 : (0 : Int) ≤ (k : Int) := by omega
  have a1 : (k : Int) ≤ (c : Int) := by omega
  rw [run_sliceAt_slice (t := 42) (h := hu), run_slice_any (t := 42) (ht := hu)]
  simp [Instr.sliceBounds, go_sem, a0, a1]
theorem own_src_upto {w : World} {base g o n c k : Nat} {L : List Int} (h : OwnI base (.slice (some ⟨g, o, none⟩) n c) L w) (hk : k ≤ L.length) : Src Try.prog 1 42 (.slice (some ⟨g, o, none⟩) k c) (L.take k).length (cellsI (L.take k)) w := by
  obtain ⟨_, _, _, hc⟩ := own_ids h
  have e : (L.take k).length = k := by rw [List.length_take]; omega
  have := src_ints (L.take k) g o c w (fun i x hx => hc i x (by rw [List.getElem?_take] at hx; split at hx; exact hx; cases hx))
  rw [e] at this ⊢
  exact this
theorem own_src_front {w : World} {base g o o' n c k : Nat} {L : List Int} (h : OwnI base (.slice (some ⟨g, o, none⟩) n c) L w) (hk : k ≤ L.length) (ho : o' = o + k ∨ c = k) : Src Try.prog 1 42 (.slice (some ⟨g, o', none⟩) (n - k) (c - k)) (L.drop k).length (cellsI (L.drop k)) w := by
  obtain ⟨hn, hnc, _, hc⟩ := own_ids h
  have e : (L.drop k).length = n - k := by rw [List.length_drop, hn]
  have := src_ints (L.drop k) g o' (c - k) w (fun i x hx => by
    have hi := (List.getElem?_eq_some_iff.1 hx).1
    rw [e] at hi
    have hoo : o' = o + k := by omega
    rw [hoo, Nat.add_assoc]
    rw [List.getElem?_drop] at hx
    exact hc (k + i) x hx)
  rw [e] at this ⊢
  exact this
/-- The one that waits stays, whatever is laid in a new row. -/
theorem own_beside {w w3 : World} {base g o n c : Nat} {L : List Int} {ob : Obj} {x v' : Value} {B : Nat} (h : OwnI base (.slice (some ⟨g, o, none⟩) n c) L w) (hx : x.ownBlock = some B) (hB : w.heap.size ≤ B) (gr : GrewI (w.alloc ob) w3 x v') : OwnI base (.slice (some ⟨g, o, none⟩) n c) L w3 :=
  (own_new h ob).kept gr.size (fun k hk hl => gr.block k hl (by
    rw [hx]
    intro e
    injection e with e
    have := (h.lt hk).2
    omega))
theorem bnd_start {w : World} {m b pb base : Nat} {W V : Int} (h1 : 1 ≤ W) (h2 : W ≤ 32) (h3 : 1 ≤ V) (h4 : V ≤ 65536) (hr : w.heap[b]? = some (.cells (doorsC m ⟨1, 0, 0, 0, W, 0, 0, W⟩) DT (0, 0))) (hm : w.heap[m]? = some (.map #[] 0)) (rp : w.heap[pb]? = some (.cells (purseC V V 0 0 0 0) PT (0, 0))) (ho : base ≤ m ∧ m < b ∧ b < pb) :
    Bnd w m b pb base W V 0 0 0 W V 0 0 (.map []) [] :=
  { da := ⟨hr, owns_empty hm, by omega⟩, rp := rp, order := ho, m0 := h1, m1 := h2, w0 := h3, w1 := h4, ts := Nat.le_refl _, sc := by omega, ct := by omega, ti := Nat.le_refl _, i0 := by omega, u0 := by omega, uc := by omega, cl := by omega, lu := by omega, ui := by omega, len := rfl, nd := List.nodup_nil, has := fun x => ⟨fun h => by simp [Maps.has] at h, fun h => by cases h⟩, mem := fun x h => by cases h }
end Go.Proofs.Ytjaneododongeab
