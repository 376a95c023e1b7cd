/-
  FRAMES, ELEVENTH PART: Put.
-/
import Derived.Test.YtcgbhcmgddgheabDoorFrJ
namespace Go.Proofs.YtcgbhcmgddgheabDoor
open Go Go.RowKit Go.BigFrame
set_option linter.unusedSimpArgs false
set_option linter.unusedVariables false
set_option maxRecDepth 100000
theorem appendPart_any {B : Nat} {bv : Value} {S : ByteArray} (f : Fr) (v : Value) (p : Nat) (hp : p ≤ 10) (w0 w : World) (hA : SpansIn w0 v f.A) (h0B : w0.heap.size ≤ B) (h0w : Below w0.heap.size w0 w) (tab0 : Tab w0) (hfit : fitsF f p) (hO : p = 1 → f.O ≤ MX) (h : OwnS B bv S w) (hS : S.size ≤ 1000000) :
    Calls Tryd.prog 23 #[.agg (f.cells v), bv, .int .i64 (p : Int)] w fun e w' => ∃ v', e = .returned v' ∧ OwnS B v' (S ++ appF f p) w' ∧ GrownV w w' bv v' := by
  match p, hp with
  | 0, _ => exact appendPart_0 f v w0 w hA h0B h0w tab0 hfit h hS
  | 1, _ => exact appendPart_1 f v w0 w hA h0B h0w tab0 hfit (hO rfl) h hS
  | 2, _ => exact appendPart_2 f v w0 w hA h0B h0w tab0 hfit h hS
  | 3, _ => exact appendPart_3 f v w0 w hA h0B h0w tab0 hfit h hS
  | 4, _ => exact appendPart_4 f v w0 w hA h0B h0w tab0 hfit h hS
  | 5, _ => exact appendPart_5 f v w0 w hA h0B h0w tab0 hfit h hS
  | 6, _ => exact appendPart_6 f v w0 w hA h0B h0w tab0 hfit h hS
  | 7, _ => exact appendPart_7 f v w0 w hA h0B h0w tab0 hfit h hS
  | 8, _ => exact appendPart_8 f v w0 w hA h0B h0w tab0 hfit h hS
  | 9, _ => exact appendPart_9 f v w0 w hA h0B h0w tab0 hfit h hS
  | 10, _ => exact appendPart_10 f v w0 w hA h0B h0w tab0 hfit h hS
theorem appF_size (f : Fr) (p : Nat) (hp : p ≤ 10) (h : fitsF f p) : (appF f p).size ≤ 70000 := by
  have n8 := fun x => (numT_size x).2
  match p, hp with
  | 0, _ => exact Nat.le_trans (n8 _) (by decide)
  | 1, _ => exact Nat.le_trans (n8 _) (by decide)
  | 2, _ => exact Nat.le_trans (n8 _) (by decide)
  | 3, _ => exact Nat.le_trans (n8 _) (by decide)
  | 4, _ => show (numT _ ++ f.D).size ≤ _; rw [ByteArray.size_append]; have h1 := n8 (f.D.size : Int); have h2 : (f.D.size : Int) ≤ 65535 := h.2; omega
  | 5, _ => exact Nat.zero_le _
  | 6, _ => show (byteT _ ++ f.D).size ≤ _; rw [ByteArray.size_append]; have h1 : (byteT f.D.size).size = 1 := strOf_size _ _; have h2 : (f.D.size : Int) ≤ 20 := h.2; omega
  | 7, _ => show f.D.size ≤ _; have h2 : (f.D.size : Int) = 8 := h; omega
  | 8, _ => show f.X.size ≤ _; have h2 : (f.X.size : Int) = 16 := h; omega
  | 9, _ => exact Nat.le_trans (acks_size f.N f.A _ (by have := h.2.1.2; omega)) (by decide)
  | 10, _ => show (zeroT _).size ≤ _; unfold zeroT; rw [strOf_size]; have h2 : f.N ≤ 65535 := h.2; omega
def partsT (f : Fr) : List Nat → ByteArray
  | [] => ⟨#[]⟩
  | p :: l => appF f p ++ partsT f l
theorem partsT_append (f : Fr) : ∀ a b : List Nat, partsT f (a ++ b) = partsT f a ++ partsT f b
  | [], b => (nil_app _).symm
  | x :: a, b => by rw [List.cons_append, partsT, partsT, partsT_append f a b, ByteArray.append_assoc]
theorem partsT_size (f : Fr) : ∀ l : List Nat, (∀ p ∈ l, p ≤ 10 ∧ fitsF f p) → (partsT f l).size ≤ 70000 * l.length
  | [], _ => Nat.zero_le _
  | p :: l, h => by
    have h1 := appF_size f p (h p (List.mem_cons_self ..)).1 (h p (List.mem_cons_self ..)).2
    have h2 := partsT_size f l (fun q hq => h q (List.mem_cons_of_mem _ hq))
    show (appF f p ++ partsT f l).size ≤ _
    rw [ByteArray.size_append, List.length_cons]
    omega
/-- What Put answers. -/
def putF (f : Fr) : Option ByteArray :=
  match partsL (firstF f) with
  | none => none
  | some ps => if justF f ps ∧ endsF f then some (byteT (firstF f).toNat ++ partsT f ps) else none
theorem partsL_10 (k : Int) (ps : List Nat) (h : partsL k = some ps) : (∀ p ∈ ps, p ≤ 10) ∧ ps.length ≤ 4 ∧ 0 ≤ k ∧ k ≤ 30 := by
  have e : ∀ l : List Nat, (l.all (fun p => decide (p ≤ 10)) && decide (l.length ≤ 4)) = true → (∀ p ∈ l, p ≤ 10) ∧ l.length ≤ 4 := fun l hl => by
    rw [Bool.and_eq_true] at hl
    exact ⟨fun p hp => by simpa using (List.all_eq_true.1 hl.1) p hp, by simpa using hl.2⟩
  unfold partsL at h
  by_cases h0 : k = 0
  · rw [if_pos h0] at h; injection h with h; subst h; exact ⟨(e _ (by decide)).1, (e _ (by decide)).2, by omega, by omega⟩
  rw [if_neg h0] at h
  by_cases h1 : k = 1
  · rw [if_pos h1] at h; injection h with h; subst h; exact ⟨(e _ (by decide)).1, (e _ (by decide)).2, by omega, by omega⟩
  rw [if_neg h1] at h
  by_cases h30 : k = 30
  · rw [if_pos h30] at h; injection h with h; subst h; exact ⟨(e _ (by decide)).1, (e _ (by decide)).2, by omega, by omega⟩
  rw [if_neg h30] at h
  by_cases h2 : k = 2
  · rw [if_pos h2] at h; injection h with h; subst h; exact ⟨(e _ (by decide)).1, (e _ (by decide)).2, by omega, by omega⟩
  rw [if_neg h2] at h
  by_cases h4 : k = 4
  · rw [if_pos h4] at h; injection h with h; subst h; exact ⟨(e _ (by decide)).1, (e _ (by decide)).2, by omega, by omega⟩
  rw [if_neg h4] at h
  by_cases h5 : k = 5
  · rw [if_pos h5] at h; injection h with h; subst h; exact ⟨(e _ (by decide)).1, (e _ (by decide)).2, by omega, by omega⟩
  rw [if_neg h5] at h
  by_cases h6 : k = 6
  · rw [if_pos h6] at h; injection h with h; subst h; exact ⟨(e _ (by decide)).1, (e _ (by decide)).2, by omega, by omega⟩
  rw [if_neg h6] at h
  by_cases h7 : k = 7
  · rw [if_pos h7] at h; injection h with h; subst h; exact ⟨(e _ (by decide)).1, (e _ (by decide)).2, by omega, by omega⟩
  rw [if_neg h7] at h
  by_cases h16 : k = 16
  · rw [if_pos h16] at h; injection h with h; subst h; exact ⟨(e _ (by decide)).1, (e _ (by decide)).2, by omega, by omega⟩
  rw [if_neg h16] at h
  by_cases h20 : k = 20
  · rw [if_pos h20] at h; injection h with h; subst h; exact ⟨(e _ (by decide)).1, (e _ (by decide)).2, by omega, by omega⟩
  rw [if_neg h20] at h
  by_cases h25 : k = 25
  · rw [if_pos h25] at h; injection h with h; subst h; exact ⟨(e _ (by decide)).1, (e _ (by decide)).2, by omega, by omega⟩
  rw [if_neg h25] at h
  by_cases h18 : k = 18
  · rw [if_pos h18] at h; injection h with h; subst h; exact ⟨(e _ (by decide)).1, (e _ (by decide)).2, by omega, by omega⟩
  rw [if_neg h18] at h
  by_cases h22 : k = 22
  · rw [if_pos h22] at h; injection h with h; subst h; exact ⟨(e _ (by decide)).1, (e _ (by decide)).2, by omega, by omega⟩
  rw [if_neg h22] at h
  by_cases h17 : k = 17
  · rw [if_pos h17] at h; injection h with h; subst h; exact ⟨(e _ (by decide)).1, (e _ (by decide)).2, by omega, by omega⟩
  rw [if_neg h17] at h
  by_cases h21 : k = 21
  · rw [if_pos h21] at h; injection h with h; subst h; exact ⟨(e _ (by decide)).1, (e _ (by decide)).2, by omega, by omega⟩
  rw [if_neg h21] at h
  by_cases h24 : k = 24
  · rw [if_pos h24] at h; injection h with h; subst h; exact ⟨(e _ (by decide)).1, (e _ (by decide)).2, by omega, by omega⟩
  rw [if_neg h24] at h
  by_cases h26 : k = 26
  · rw [if_pos h26] at h; injection h with h; subst h; exact ⟨(e _ (by decide)).1, (e _ (by decide)).2, by omega, by omega⟩
  rw [if_neg h26] at h
  by_cases h27 : k = 27
  · rw [if_pos h27] at h; injection h with h; subst h; exact ⟨(e _ (by decide)).1, (e _ (by decide)).2, by omega, by omega⟩
  rw [if_neg h27] at h
  by_cases h28 : k = 28
  · rw [if_pos h28] at h; injection h with h; subst h; exact ⟨(e _ (by decide)).1, (e _ (by decide)).2, by omega, by omega⟩
  rw [if_neg h28] at h
  by_cases h29 : k = 29
  · rw [if_pos h29] at h; injection h with h; subst h; exact ⟨(e _ (by decide)).1, (e _ (by decide)).2, by omega, by omega⟩
  rw [if_neg h29] at h
  by_cases h8 : 8 ≤ k ∧ k ≤ 15
  · rw [if_pos h8] at h
    injection h with h
    have hk : k = 8 ∨ k = 9 ∨ k = 10 ∨ k = 11 ∨ k = 12 ∨ k = 13 ∨ k = 14 ∨ k = 15 := by omega
    rcases hk with rfl | rfl | rfl | rfl | rfl | rfl | rfl | rfl
    all_goals (subst h; exact ⟨(e _ (by decide)).1, (e _ (by decide)).2, by omega, by omega⟩)
  · rw [if_neg h8] at h; exact absurd h (by simp)
theorem OwnS.mono {B B' : Nat} {v : Value} {S : ByteArray} {w : World} (h : OwnS B' v S w) (hB : B ≤ B') : OwnS B v S w := by
  obtain ⟨n, f, ho, e⟩ := h
  refine ⟨n, f, ⟨⟨ho.row.1, ?_⟩, Nat.le_trans hB ho.base⟩, e⟩
  rcases ho.row.2 with h1 | ⟨g, cap, cur, hv, hb', rest⟩
  · exact .inl h1
  · exact .inr ⟨g, cap, cur, hv, Nat.le_trans hB hb', rest⟩
theorem mostO_le (f : Fr) (ps : List Nat) (hp : partsL (firstF f) = some ps) (hj : ∀ p ∈ ps, fitsF f p) (h1 : 1 ∈ ps) : f.O ≤ MX := by
  have h2 := (hj 1 h1).2
  unfold mostO at h2
  by_cases hk : f.K = 24
  · rw [if_pos hk] at h2
    have e : firstF f = 24 := by unfold firstF; rw [if_neg (by omega), if_neg (by omega), hk]
    rw [e] at hp
    have e2 : partsL 24 = some [2, 1, 6, 8] := rfl
    rw [e2] at hp
    injection hp with hp
    have h3 := (hj 2 (by rw [← hp]; decide)).2
    have h4 := mostN_le f
    exact Int.le_trans h2 (Int.le_trans h3 h4)
  · rw [if_neg hk] at h2; exact h2
def PutPost (f : Fr) (w : World) (e : Ending) (w' : World) : Prop :=
  (match putF f with
    | some S => ∃ v, e = .returned (.tuple #[v, .int .i64 0]) ∧ OwnS w.heap.size v S w'
    | none => e = .returned (.tuple #[.slice none 0 0, .int .i64 2])) ∧ Below w.heap.size w w'
set_option maxHeartbeats 16000000 in
theorem put_any (f : Fr) (v : Value) (w : World) (hA : SpansIn w v f.A) (hD : f.D.size ≤ maxLen) (hX : f.X.size ≤ maxLen) (h1 : -9223372036854775808 ≤ f.K) (h2 : f.K ≤ 9223372036854775807) (tab : Tab w) :
    Calls Tryd.prog 8 #[.agg (f.cells v)] w (PutPost f w) := by
  obtain ⟨r, hr⟩ : ∃ r, putF f = r := ⟨_, rfl⟩
  unfold PutPost
  rw [hr]
  unfold putF at hr
  have FB := Lib.hid (fun (w' : World) => firstByte_any f v w' h1 h2)
  have hk1 : -9223372036854775808 ≤ firstF f ∧ firstF f ≤ 9223372036854775807 := by
    unfold firstF; repeat' split
    all_goals omega
  have PA := Lib.hid (fun (w' : World) => partsOf_any (firstF f) hk1.1 hk1.2 w')
  have HJ := Lib.hid (fun (ps : List Nat) (pv : Value) (hps : ∀ p ∈ ps, p ≤ 10) (w' : World) (h : SpansIn w' v f.A) (hP : PartsIn w' pv ps) => hasJust_any f v pv ps hps w' h hP hD hX)
  have EN := Lib.hid (fun (w' : World) => endsInTime_any f v w' hD)
  have HA := Lib.hid hA
  have TB := Lib.hid tab
  have AP := Lib.hid (fun (B : Nat) (bv : Value) (S : ByteArray) (p : Nat) (hp : p ≤ 10) (w0 w' : World) (hA : SpansIn w0 v f.A) (h0B : w0.heap.size ≤ B) (h0w : Below w0.heap.size w0 w') (tab0 : Tab w0) (hfit : fitsF f p) (hO : p = 1 → f.O ≤ MX) (h : OwnS B bv S w') (hS : S.size ≤ 1000000) => appendPart_any f v p hp w0 w' hA h0B h0w tab0 hfit hO h hS)
  have MO := Lib.hid (mostO_le f)
  have PS := Lib.hid (partsT_size f)
  have HR := Lib.hid hr
  obtain ⟨k, hk⟩ : ∃ k, firstF f = k := ⟨_, rfl⟩
  have HK := Lib.hid hk
  rw [hk] at FB PA hk1
  obtain ⟨k1, k2⟩ := hk1
  clear hr hk hA tab hD hX h1 h2
  obtain ⟨K, S, O, N, C, F, D, X, A⟩ := f
  dsimp only [Fr.cells] at *
  unfold frC at *
  have row := heap_alloc_last w (.cells #[.int .i64 K, .int .i64 S, .int .i64 O, .int .i64 N, .int .i64 C, .bool F, .string D, .string X, v] 33)
  have bel := (Below.refl w.heap.size w).alloc (Nat.le_refl _) (.cells #[.int .i64 K, .int .i64 S, .int .i64 O, .int .i64 N, .int .i64 C, .bool F, .string D, .string X, v] 33)
  go_enter Tryd.func8, Tryd.ntmps8
  go_upto_region 1 with (fail)
  generalize w.alloc _ = w1 at *
  have B1 := Lib.hid bel
  have CX := Lib.hid (fun (w' : World) (hb : Below w1.heap.size w1 w') => cells9 ((hb.block _ (lt_row row)).trans row))
  obtain ⟨c0, c1, c2, c3, c4, c5, c6, c7, c8⟩ := cells9 row
  clear row bel
  go_wp2_with fail
  with_reducible refine (FB.out w1).mono ?_
  rintro e w2 ⟨rfl, hb2⟩
  have H2 := Lib.hid hb2
  clear hb2 c0 c1 c2 c3 c4 c5 c6 c7 c8
  go_wp2_with fail
  with_reducible refine (PA.out w2).mono ?_
  rintro e w3 ⟨hpost, hb3⟩
  have H3 := Lib.hid (H2.out.trans (hb3.mono H2.out.size))
  have HR2 := HR.out
  rw [HK.out] at HR2
  clear hb3 HR
  cases hpl : partsL k with
  | none =>
    rw [hpl] at hpost HR2
    dsimp only at hpost HR2
    subst hpost HR2
    have END := Lib.hid (B1.out.trans (H3.out.mono B1.out.size))
    go_wp2_with fail
    go_ret2
    exact ⟨rfl, END.out⟩
  | some ps =>
    rw [hpl] at hpost HR2
    dsimp only at hpost HR2
    obtain ⟨pv, rfl, hpi⟩ := hpost
    obtain ⟨ps10, pslen, hk0, hk30⟩ := partsL_10 k ps hpl
    have HPI := Lib.hid hpi
    have HP10 := Lib.hid ps10
    have HPL := Lib.hid hpl
    have WW := Lib.hid (fun (w' : World) (hb : Below w3.heap.size w3 w') => B1.out.trans ((H3.out.trans (hb.mono H3.out.size)).mono B1.out.size))
    have JU := Lib.hid (fun (w' : World) (hb : Below w3.heap.size w3 w') => HJ.out ps pv ps10 w' (HA.out.later (WW.out w' hb)) (hpi.later hb))
    obtain ⟨a, c, rfl, hc, hat⟩ := hpi.at_
    have HAT := Lib.hid hat
    clear hat hpi HJ ps10 hpl FB PA
    obtain ⟨c0, c1, c2, c3, c4, c5, c6, c7, c8⟩ := CX.out w3 H3.out
    by_cases hj : justF (⟨K, S, O, N, C, F, D, X, A⟩ : Fr) ps
    rotate_left
    · rw [if_neg (fun h => hj h.1)] at HR2
      subst HR2
      have D1 := Lib.hid (decide_eq_false hj)
      go_wp2_with fail
      with_reducible refine (JU.out w3 (Below.refl _ _)).mono ?_
      rintro e w4 ⟨rfl, hb4⟩
      rw [D1.out]
      have END := Lib.hid (WW.out w4 hb4)
      clear hb4
      go_wp2_with fail
      go_ret2
      exact ⟨rfl, END.out⟩
    have D1 := Lib.hid (decide_eq_true hj)
    have HJ1 := Lib.hid hj.1
    by_cases he : endsF (⟨K, S, O, N, C, F, D, X, A⟩ : Fr)
    rotate_left
    · rw [if_neg (fun h => he h.2)] at HR2
      subst HR2
      have D2 := Lib.hid (decide_eq_false he)
      clear hj he
      go_wp2_with fail
      with_reducible refine (JU.out w3 (Below.refl _ _)).mono ?_
      rintro e w4 ⟨rfl, hb4⟩
      rw [D1.out]
      have H4 := Lib.hid hb4
      clear hb4 c0 c1 c2 c3 c4 c5 c6 c7 c8
      obtain ⟨c0, c1, c2, c3, c4, c5, c6, c7, c8⟩ := CX.out w4 (H3.out.trans (H4.out.mono H3.out.size))
      go_wp2_with fail
      with_reducible refine (EN.out w4).mono ?_
      rintro e w5 ⟨rfl, hb5⟩
      rw [D2.out]
      have END := Lib.hid (WW.out w5 (H4.out.trans (hb5.mono H4.out.size)))
      clear hb5
      go_wp2_with fail
      go_ret2
      exact ⟨rfl, END.out⟩
    rw [if_pos ⟨hj, he⟩] at HR2
    subst HR2
    have D2 := Lib.hid (decide_eq_true he)
    clear hj he
    go_wp2_with fail
    with_reducible refine (JU.out w3 (Below.refl _ _)).mono ?_
    rintro e w4 ⟨rfl, hb4⟩
    rw [D1.out]
    have H4 := Lib.hid hb4
    clear hb4 c0 c1 c2 c3 c4 c5 c6 c7 c8
    obtain ⟨c0, c1, c2, c3, c4, c5, c6, c7, c8⟩ := CX.out w4 (H3.out.trans (H4.out.mono H3.out.size))
    go_wp2_with fail
    with_reducible refine (EN.out w4).mono ?_
    rintro e w5 ⟨rfl, hb5⟩
    rw [D2.out]
    have H5 := Lib.hid (H4.out.trans (hb5.mono H4.out.size))
    clear hb5 c0 c1 c2 c3 c4 c5 c6 c7 c8 JU EN D1 D2
    have hwr : IntKind.u8.wrap k = k := by rw [IntKind.wrap_u8]; omega
    have e2 : n8 (BitVec.ofNat 8 k.toNat) = k := by rw [n8_nat, BitVec.toNat_ofNat]; omega
    have om := Own.made (B := w5.heap.size) (BitVec.ofNat 8 k.toNat) w5 (Nat.le_refl _)
    rw [e2] at om
    have bel6 := (Below.refl w5.heap.size w5).alloc (Nat.le_refl _) (.cells #[.int .u8 k] 5)
    have OM := Lib.hid om
    clear om e2
    obtain ⟨n, hn⟩ : ∃ n, ps.length = n := ⟨_, rfl⟩
    have HN := Lib.hid hn
    rw [hn] at hc pslen ⊢
    obtain ⟨hnc, hcm⟩ := hc
    have hn63 : n ≤ 4 := pslen
    have hcm' : c ≤ 9223372036854775807 := by unfold maxLen at hcm; omega
    clear hn hcm pslen
    go_upto_region 7 with (fail)
    generalize w5.alloc _ = w6 at *
    have B6 := Lib.hid bel6
    have SZ := Lib.hid (fun (i : Nat) => (show (byteT k.toNat ++ partsT (⟨K, S, O, N, C, F, D, X, A⟩ : Fr) (ps.take i)).size ≤ 1000000 by
      have h1 := PS.out (ps.take i) (fun p hp => ⟨HP10.out p (List.mem_of_mem_take hp), HJ1.out p (List.mem_of_mem_take hp)⟩)
      have h2 : (byteT k.toNat).size = 1 := strOf_size _ _
      have h3 : (ps.take i).length ≤ 4 := Nat.le_trans (List.length_take_le' _ _) (by rw [HN.out]; exact hn63)
      rw [ByteArray.size_append]
      omega))
    have TK := Lib.hid (fun (i : Nat) (hi : i < ps.length) => (show byteT k.toNat ++ partsT (⟨K, S, O, N, C, F, D, X, A⟩ : Fr) (ps.take i) ++ appF (⟨K, S, O, N, C, F, D, X, A⟩ : Fr) ps[i] = byteT k.toNat ++ partsT (⟨K, S, O, N, C, F, D, X, A⟩ : Fr) (ps.take (i + 1)) by
      rw [List.take_succ_eq_append_getElem hi, partsT_append, ByteArray.append_assoc]
      show _ ++ (_ ++ appF _ _) = _ ++ (_ ++ (appF _ _ ++ (⟨#[]⟩ : ByteArray)))
      rw [app_nil]))
    have T0 := Lib.hid (show byteT k.toNat ++ partsT (⟨K, S, O, N, C, F, D, X, A⟩ : Fr) (ps.take 0) = byteT k.toNat from app_nil _)
    have TE := Lib.hid (show byteT k.toNat ++ partsT (⟨K, S, O, N, C, F, D, X, A⟩ : Fr) (ps.take ps.length) = byteT k.toNat ++ partsT (⟨K, S, O, N, C, F, D, X, A⟩ : Fr) ps by rw [List.take_length])
    clear bel6
    go_loopw [7, 35] (fun s7 s35 wr => ∃ (i : Nat), i ≤ n ∧ s35 = .int .i64 (i : Int) ∧ OwnS w5.heap.size s7 (byteT k.toNat ++ partsT (⟨K, S, O, N, C, F, D, X, A⟩ : Fr) (ps.take i)) wr ∧ Below w5.heap.size w5 wr) (fun _ s35 _ => n - (intOf s35).toNat)
    case atStart => exact ⟨0, by omega, rfl, by rw [T0.out]; exact ⟨_, _, OM.out, rfl⟩, B6.out⟩
    case round =>
      obtain ⟨i, hi, rfl, ho, hb⟩ := hrel
      have OO := Lib.hid ho
      have BL := Lib.hid hb
      clear ho hb OM B6
      have W5 := Lib.hid (H5.out.trans (BL.out.mono H5.out.size))
      by_cases hin : i < n
      · have hinI : (i : Int) < (n : Int) := by omega
        have hip : i < ps.length := by rw [HN.out]; exact hin
        obtain h0 | ⟨b, o, rfl, hbl, hcell⟩ := HAT.out
        · rw [h0] at hip; exact absurd hip (Nat.not_lt_zero _)
        have cp := (W5.out.cell (p := ⟨b, o + i, none⟩) hbl).trans (hcell i hip)
        have hp10 := HP10.out _ (List.getElem_mem hip)
        have hfit := HJ1.out _ (List.getElem_mem hip)
        have hO := fun (h1 : ps[i] = 1) => MO.out ps (by rw [HK.out]; exact HPL.out) HJ1.out (h1 ▸ List.getElem_mem hip)
        have tk := TK.out i hip
        obtain ⟨p, hp⟩ : ∃ p, ps[i] = p := ⟨_, rfl⟩
        rw [hp] at cp hp10 hfit hO tk
        have TKI := Lib.hid tk
        have APi := Lib.hid (AP.out w5.heap.size _ _ p hp10 w wr HA.out (by have h1 := B1.out.size; have h2 := H3.out.size; have h3 := H5.out.size; omega) (WW.out wr W5.out) TB.out hfit hO OO.out (SZ.out i))
        obtain ⟨c0, c1, c2, c3, c4, c5, c6, c7, c8⟩ := CX.out wr (H3.out.trans (W5.out.mono H3.out.size))
        clear hp hfit hO tk hcell hbl
        go_upto_region 9 with (fail)
        go_wp2_with fail
        with_reducible refine APi.out.mono ?_
        rintro e w7 ⟨v7, rfl, ho7, hg7⟩
        rw [TKI.out] at ho7
        have O7 := Lib.hid ho7
        have B7 := Lib.hid (BL.out.trans (OO.out.belowV hg7))
        clear ho7 hg7 c0 c1 c2 c3 c4 c5 c6 c7 c8 cp
        go_upto_region 11 with (fail)
        case roundEnd => exact ⟨⟨i + 1, by omega, by first | rfl | (congr 1), O7.out, B7.out⟩, by simp only [intOf]; omega⟩
      · obtain rfl : i = n := by omega
        have hin' : ¬ (i : Int) < (i : Int) := by omega
        have FIN := Lib.hid OO.out
        have te := TE.out
        rw [HN.out] at te
        rw [te] at FIN
        have END := Lib.hid (WW.out wr W5.out)
        have LE := Lib.hid (show w.heap.size ≤ w5.heap.size by have h1 := B1.out.size; have h2 := H3.out.size; have h3 := H5.out.size; omega)
        go_wp2_with fail
        go_ret2
        exact ⟨⟨_, rfl, FIN.out.mono LE.out⟩, END.out⟩
end Go.Proofs.YtcgbhcmgddgheabDoor
