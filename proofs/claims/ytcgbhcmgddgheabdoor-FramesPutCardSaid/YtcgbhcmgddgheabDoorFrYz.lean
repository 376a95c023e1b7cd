/-
  FRAMES: WHAT IS PUT IS GOT, AND A BEGINNING OF IT ISN'T (plain mathematics).
  FRAMES: Get OF WHAT Put MADE, AND OF ITS BEGINNINGS (plain mathematics).
  ROWS OF ONE's OWN, OF ELEMENTS OF ANY SIZE: append, and which block it leaves.
  FRAMES: FRAMES IN A ROW OF ONE's OWN, AND ALL THAT ARE GOT OF BYTES.
  ARRAYS OF BYTES THAT CAME IN, by value, alone or in a struct.
  A []Frame THAT CAME IN.
-/
import Derived.Test.YtcgbhcmgddgheabDoorFrS
import Derived.Test.YtcgbhcmgddgheabDoorOwn
import Derived.Test.YtcgbhcmgddgheabDoorFrVz
import Derived.Test.YtcgbhcmgddgheabDoorRowIn
import Derived.Test.YtcgbhcmgddgheabDoorKit
import Derived.Deep.Slices
import Derived.SizedLaws
namespace Go.Proofs.YtcgbhcmgddgheabDoor
open Go Go.RowKit Go.BigFrame
set_option linter.unusedSimpArgs false
set_option linter.unusedVariables false
set_option maxRecDepth 100000
/-- A frame with one part of another one. -/
def overF (f g : Fr) (p : Nat) : Fr :=
  match p with
  | 0 => { g with S := f.S }
  | 1 => { g with O := f.O }
  | 2 => { g with N := f.N }
  | 10 => { g with N := f.N }
  | 3 => { g with C := f.C }
  | 4 => { g with D := f.D }
  | 6 => { g with D := f.D }
  | 7 => { g with D := f.D }
  | 8 => { g with X := f.X }
  | 9 => { g with N := f.N, A := f.A }
  | _ => g
theorem over_K (f g : Fr) (p : Nat) : (overF f g p).K = g.K := by unfold overF; split <;> rfl
theorem over_N (f g : Fr) (p : Nat) (h : g.N = f.N) : (overF f g p).N = f.N := by unfold overF; split <;> first | rfl | exact h
theorem text_back {F : Nat → BitVec 8} {len p n : Nat} {X : ByteArray} (h : Sg F p X) (hn : X.size = n) (hl : p + n ≤ len) : rText F len n ⟨p, 0⟩ = (X, ⟨p + n, 0⟩) := by
  unfold rText
  rw [if_pos rfl, if_pos (show n ≤ len - p by omega)]
  dsimp only
  rw [Sg.text h hn]
theorem part_back {F : Nat → BitVec 8} {len p : Nat} (f g : Fr) (pt : Nat) (hp : pt ≤ 9) (h5 : pt ≠ 5) (hfit : fitsF f pt) (hO : f.O ≤ MX) (h : Sg F p (appF f pt)) (hl : p + (appF f pt).size ≤ len) :
    rPart F len g ⟨p, 0⟩ pt = (overF f g pt, ⟨p + (appF f pt).size, 0⟩) := by
  match pt, hp with
  | 0, _ =>
    obtain ⟨h0, h1⟩ := (show 0 ≤ f.S ∧ f.S ≤ MX from hfit)
    show (({ g with S := ((rNum F len ⟨p, 0⟩).1 : Int) } : Fr), (rNum F len ⟨p, 0⟩).2) = _
    rw [num_back (x := f.S) h hl h0 h1]
    show (({ g with S := ((f.S.toNat : Nat) : Int) } : Fr), _) = _
    rw [Int.toNat_of_nonneg h0]
    rfl
  | 1, _ =>
    have h0 : 0 ≤ f.O := hfit.1
    show (({ g with O := ((rNum F len ⟨p, 0⟩).1 : Int) } : Fr), (rNum F len ⟨p, 0⟩).2) = _
    rw [num_back (x := f.O) h hl h0 hO]
    show (({ g with O := ((f.O.toNat : Nat) : Int) } : Fr), _) = _
    rw [Int.toNat_of_nonneg h0]
    rfl
  | 2, _ =>
    have h0 : 0 ≤ f.N := hfit.1
    have h1 : f.N ≤ MX := Int.le_trans hfit.2 (mostN_le f)
    show (({ g with N := ((rNum F len ⟨p, 0⟩).1 : Int) } : Fr), (rNum F len ⟨p, 0⟩).2) = _
    rw [num_back (x := f.N) h hl h0 h1]
    show (({ g with N := ((f.N.toNat : Nat) : Int) } : Fr), _) = _
    rw [Int.toNat_of_nonneg h0]
    rfl
  | 3, _ =>
    obtain ⟨h0, h1⟩ := (show 0 ≤ f.C ∧ f.C ≤ MX from hfit)
    show (({ g with C := ((rNum F len ⟨p, 0⟩).1 : Int) } : Fr), (rNum F len ⟨p, 0⟩).2) = _
    rw [num_back (x := f.C) h hl h0 h1]
    show (({ g with C := ((f.C.toNat : Nat) : Int) } : Fr), _) = _
    rw [Int.toNat_of_nonneg h0]
    rfl
  | 4, _ =>
    have h2 : (f.D.size : Int) ≤ 65535 := hfit.2
    have hs : (appF f 4).size = (numT (f.D.size : Int)).size + f.D.size := size_append _ _
    have hh : Sg F p (numT (f.D.size : Int) ++ f.D) := h
    show (({ g with D := (rText F len (rMost F len 65535 ⟨p, 0⟩).1 (rMost F len 65535 ⟨p, 0⟩).2).1 } : Fr), (rText F len (rMost F len 65535 ⟨p, 0⟩).1 (rMost F len 65535 ⟨p, 0⟩).2).2) = _
    rw [hs] at hl ⊢
    rw [most_back hh.left (by omega) (by omega) (by unfold MX; omega) h2]
    dsimp only
    rw [Int.toNat_natCast, text_back hh.right rfl (by omega), Nat.add_assoc]
    rfl
  | 6, _ =>
    have h1 : (1 : Int) ≤ f.D.size ∧ (f.D.size : Int) ≤ 20 := hfit
    have hb : (byteT f.D.size).size = 1 := strOf_size _ _
    have hs : (appF f 6).size = 1 + f.D.size := by show (byteT _ ++ f.D).size = _; rw [size_append, hb]
    have hh : Sg F p (byteT f.D.size ++ f.D) := h
    have h0 := byteT_at hh.left
    have hc : (F p).toNat = f.D.size := by rw [h0, BitVec.toNat_ofNat]; omega
    rw [hs] at hl ⊢
    have e1 : rText F len 1 ⟨p, 0⟩ = (byteT f.D.size, ⟨p + 1, 0⟩) := text_back hh.left hb (by omega)
    have e2 : rNeed true ⟨p + 1, 0⟩ = ⟨p + 1, 0⟩ := rfl
    show (({ g with D := (rId F len ⟨p, 0⟩).1 } : Fr), (rId F len ⟨p, 0⟩).2) = _
    unfold rId
    rw [e1]
    dsimp only
    rw [if_pos rfl, hc, within_t h1, e2, text_back (Sg.shift hh.right (by rw [hb])) rfl (by omega), Nat.add_assoc]
    rfl
  | 7, _ =>
    have h8 : f.D.size = 8 := by have : (f.D.size : Int) = 8 := hfit; omega
    have hs : (appF f 7).size = 8 := h8
    rw [hs] at hl ⊢
    show (({ g with D := (rText F len 8 ⟨p, 0⟩).1 } : Fr), (rText F len 8 ⟨p, 0⟩).2) = _
    rw [text_back (X := f.D) h h8 hl]
    rfl
  | 8, _ =>
    have h8 : f.X.size = 16 := by have : (f.X.size : Int) = 16 := hfit; omega
    have hs : (appF f 8).size = 16 := h8
    rw [hs] at hl ⊢
    show (({ g with X := (rText F len 16 ⟨p, 0⟩).1 } : Fr), (rText F len 16 ⟨p, 0⟩).2) = _
    rw [text_back (X := f.X) h h8 hl]
    rfl
  | 9, _ =>
    show (({ g with N := (rAckF F len ⟨p, 0⟩).1, A := (rAckF F len ⟨p, 0⟩).2.1 } : Fr), (rAckF F len ⟨p, 0⟩).2.2) = _
    rw [ack_back f.N f.A hfit.2 hfit.1 h hl]
    rfl
theorem fits_over (f g : Fr) (pt : Nat) (hK : g.K = f.K) (h5 : pt ≠ 5) (hN : pt = 1 → g.N = f.N ∨ f.K ≠ 24) (h : fitsF f pt) : fitsF (overF f g pt) pt := by
  match pt with
  | 0 => exact h
  | 1 =>
    refine ⟨h.1, ?_⟩
    have h2 : f.O ≤ mostO f := h.2
    show f.O ≤ mostO { g with O := f.O }
    unfold mostO at h2 ⊢
    dsimp only
    rw [hK]
    rcases hN rfl with h3 | h3
    · rw [h3]; exact h2
    · rw [if_neg h3] at h2 ⊢; exact h2
  | 2 =>
    have h2 : 0 ≤ f.N ∧ f.N ≤ mostN f := h
    show 0 ≤ f.N ∧ f.N ≤ mostN { g with N := f.N }
    unfold mostN at h2 ⊢
    dsimp only
    rw [hK]; exact h2
  | 3 => exact h
  | 4 =>
    have h2 : leastD f ≤ f.D.size ∧ (f.D.size : Int) ≤ 65535 := h
    show leastD { g with D := f.D } ≤ f.D.size ∧ (f.D.size : Int) ≤ 65535
    unfold leastD at h2 ⊢
    dsimp only
    rw [hK]; exact h2
  | 5 => exact absurd rfl h5
  | 6 => exact h
  | 7 => exact h
  | 8 => exact h
  | 9 => exact h
  | 10 => exact h
  | n + 11 => exact h
theorem parts_back {F : Nat → BitVec 8} {len : Nat} (f : Fr) (hO : f.O ≤ MX) : ∀ (ps : List Nat) (g : Fr) (p : Nat), (∀ q ∈ ps, q ≤ 9 ∧ q ≠ 5 ∧ fitsF f q) → g.K = f.K → (f.K ≠ 24 ∨ g.N = f.N ∨ ∃ l, ps = 2 :: l) → Sg F p (partsT f ps) → p + (partsT f ps).size ≤ len →
    rParts F len ps g ⟨p, 0⟩ = (ps.foldl (overF f) g, ⟨p + (partsT f ps).size, 0⟩)
  | [], g, p, _, _, _, _, _ => rfl
  | q :: l, g, p, hq, hK, ho, h, hl => by
    have h1 := hq q (List.mem_cons_self ..)
    have hs : (partsT f (q :: l)).size = (appF f q).size + (partsT f l).size := size_append _ _
    rw [hs] at hl ⊢
    have hh : Sg F p (appF f q ++ partsT f l) := h
    have e := part_back (len := len) f g q h1.1 h1.2.1 h1.2.2 hO hh.left (by omega)
    have hf : fitsF (overF f g q) q := fits_over f g q hK h1.2.1 (fun hq1 => by
      rcases ho with h3 | h3 | ⟨l', h3⟩
      · exact .inr h3
      · exact .inl h3
      · injection h3 with h3 _; omega) h1.2.2
    have hn : rNeed true ⟨p + (appF f q).size, 0⟩ = ⟨p + (appF f q).size, 0⟩ := rfl
    have hi := parts_back (F := F) (len := len) f hO l (overF f g q) (p + (appF f q).size) (fun r hr => hq r (List.mem_cons_of_mem _ hr)) ((over_K ..).trans hK) (by
      rcases ho with h3 | h3 | ⟨l', h3⟩
      · exact .inl h3
      · exact .inr (.inl (over_N f g q h3))
      · injection h3 with h3 _; subst h3; exact .inr (.inl rfl)) hh.right (by omega)
    unfold rParts
    rw [e]
    dsimp only
    rw [decide_eq_true hf, hn, hi, Nat.add_assoc]
    rfl
/-- Bytes that hold a text, as far as they go. -/
def SgL (F : Nat → BitVec 8) (len o : Nat) (X : ByteArray) : Prop := ∀ i, i < X.size → o + i < len → F (o + i) = bx X i
theorem SgL.left {F : Nat → BitVec 8} {len o : Nat} {A B : ByteArray} (h : SgL F len o (A ++ B)) : SgL F len o A := fun i hi hl => by
  rw [h i (by rw [size_append]; omega) hl, bx_left _ _ _ hi]
theorem SgL.right {F : Nat → BitVec 8} {len o : Nat} {A B : ByteArray} (h : SgL F len o (A ++ B)) : SgL F len (o + A.size) B := fun i hi hl => by
  rw [Nat.add_assoc, h (A.size + i) (by rw [size_append]; omega) (by omega), bx_right]
theorem SgL.full {F : Nat → BitVec 8} {len o : Nat} {X : ByteArray} (h : SgL F len o X) (hl : o + X.size ≤ len) : Sg F o X := fun i hi => h i hi (by omega)
theorem num_err (F : Nat → BitVec 8) (len : Nat) {s : At} (h : ¬ s.e = 0) : rNum F len s = (0, s) := by unfold rNum; rw [if_neg h]
theorem need_err (ok : Bool) {s : At} (h : ¬ s.e = 0) : rNeed ok s = s := by unfold rNeed; rw [if_neg (fun h2 => h h2.1)]
theorem most_err (F : Nat → BitVec 8) (len : Nat) (m : Int) {s : At} (h : ¬ s.e = 0) : rMost F len m s = (0, s) := by
  unfold rMost
  rw [num_err F len h]
  dsimp only
  rw [need_err _ h, if_neg h]
theorem text_err (F : Nat → BitVec 8) (len n : Nat) {s : At} (h : ¬ s.e = 0) : rText F len n s = (⟨#[]⟩, s) := by unfold rText; rw [if_neg h]
theorem text_cut (F : Nat → BitVec 8) {len n p : Nat} (h : len < p + n) (hp : p ≤ len) : rText F len n ⟨p, 0⟩ = (⟨#[]⟩, ⟨p, 3⟩) := by
  unfold rText
  rw [if_pos rfl, if_neg (show ¬ n ≤ len - p by omega)]
theorem acks_err (F : Nat → BitVec 8) (len : Nat) : ∀ (n : Nat) (A : List (Int × Int)) (s : At), ¬ s.e = 0 → (rAcks F len n A s).2 = s
  | 0, A, s, _ => rfl
  | n + 1, A, s, h => by
    unfold rAcks
    dsimp only
    rw [most_err F len _ h]
    dsimp only
    unfold rSpan
    rw [most_err F len _ h]
    exact acks_err F len n _ s h
theorem part_err (F : Nat → BitVec 8) (len : Nat) (g : Fr) {s : At} (pt : Nat) (h : ¬ s.e = 0) : (rPart F len g s pt).2.e = s.e := by
  unfold rPart
  split
  · rw [num_err F len h]
  · rw [num_err F len h]
  · rw [num_err F len h]
  · rw [num_err F len h]
  · rw [most_err F len _ h, text_err F len _ h]
  · rw [text_err F len _ h]
  · unfold rId; rw [text_err F len _ h]; dsimp only; rw [if_neg h]
  · rw [text_err F len _ h]
  · rw [text_err F len _ h]
  · unfold rAckF
    dsimp only
    rw [num_err F len h]
    dsimp only
    rw [num_err F len h]
    dsimp only
    rw [most_err F len _ h]
    dsimp only
    unfold rSpan
    rw [most_err F len _ h]
    dsimp only
    rw [acks_err F len _ _ s h]
  · rfl
  · rfl
theorem parts_err (F : Nat → BitVec 8) (len : Nat) : ∀ (ps : List Nat) (g : Fr) (s : At), ¬ s.e = 0 → (rParts F len ps g s).2.e = s.e
  | [], g, s, _ => rfl
  | q :: l, g, s, h => by
    have e := part_err F len g q h
    unfold rParts
    rw [need_err _ (by rw [e]; exact h), parts_err F len l _ _ (by rw [e]; exact h), e]
theorem num_cut {F : Nat → BitVec 8} {len p : Nat} {x : Int} (h : SgL F len p (numT x)) (hp : p ≤ len) (hl : len < p + (numT x).size) (h0 : 0 ≤ x) (h1 : x ≤ MX) : rNum F len ⟨p, 0⟩ = (0, ⟨p, 3⟩) := by
  have hs : (numT x).size = 2 ^ least (BitVec.ofInt 64 x) := strOf_size _ _
  have hx := num_fits x h0 h1
  have hc : ctG len F p = false := by
    unfold ctG isNum
    apply decide_eq_false
    rintro ⟨ha, hb⟩
    have hb0 := h 0 (by have := (numT_size x).1; omega) (by omega)
    have hg : gk (fun i => F (p + i)) = least (BitVec.ofInt 64 x) := by
      unfold gk
      show (F (p + 0) >>> 6).toNat = _
      rw [hb0]
      unfold numT
      rw [bx_of _ _ _ (Nat.two_pow_pos _)]
      exact size_vbyte _ _ (least_lt _) (least_fits _ hx)
    rw [hg] at hb
    omega
  unfold rNum
  rw [if_pos rfl, if_neg (by dsimp only; rw [hc]; decide)]
theorem most_cut {F : Nat → BitVec 8} {len p : Nat} {x most : Int} (h : SgL F len p (numT x)) (hp : p ≤ len) (hl : len < p + (numT x).size) (h0 : 0 ≤ x) (h1 : x ≤ MX) : rMost F len most ⟨p, 0⟩ = (0, ⟨p, 3⟩) := by
  unfold rMost
  rw [num_cut h hp hl h0 h1]
  rfl
theorem gaps_cut {F : Nat → BitVec 8} {len : Nat} (A : List (Int × Int)) (hf : fallF MX A) : ∀ (n j p : Nat), j + 1 + n = A.length → SgL F len p (numsT ((gapL A (j + n)).drop (2 * j))) → p ≤ len → len < p + (numsT ((gapL A (j + n)).drop (2 * j))).size →
    (rAcks F len n (A.take (j + 1)) ⟨p, 0⟩).2.e = 3
  | 0, j, p, hj, hs, hp, hl => by
    have e : (gapL A (j + 0)).drop (2 * j) = [] := List.drop_of_length_le (by
      have : (gapL A (j + 0)).length = 2 * j := gapL_len A j
      omega)
    rw [e] at hl
    exact absurd hl (by show ¬ len < p + 0; omega)
  | n + 1, j, p, hj, hs, hp, hl => by
    have e : (gapL A (j + (n + 1))).drop (2 * j) = ((A.getD j (0, 0)).1 - (A.getD (j + 1) (0, 0)).2 - 2) :: ((A.getD (j + 1) (0, 0)).2 - (A.getD (j + 1) (0, 0)).1) :: (gapL A (j + 1 + n)).drop (2 * (j + 1)) := by
      rw [show j + (n + 1) = j + 1 + n by omega]
      exact gapL_drop A (j + 1 + n) j (by omega)
    rw [e] at hs hl
    obtain ⟨f1, f2, f3⟩ := fallF_at A MX hf j (by omega)
    obtain ⟨g1, g2, g3⟩ := fallF_at A MX hf (j + 1) (by omega)
    have hn := fallF_next A MX hf j (by omega)
    have hlast : ((A.take (j + 1)).getLastD (0, 0)) = A.getD j (0, 0) := by
      rw [List.getLastD_eq_getLast?, List.getLast?_eq_getElem?, List.length_take, List.getElem?_take, if_pos (by omega), show min (j + 1) A.length - 1 = j by omega, List.getD_eq_getElem?_getD]
    have htk : A.take (j + 1 + 1) = A.take (j + 1) ++ [A.getD (j + 1) (0, 0)] := by
      rw [List.take_succ_eq_append_getElem (show j + 1 < A.length by omega), List.getD_eq_getElem?_getD, List.getElem?_eq_getElem (by omega)]
      rfl
    generalize hy : A.getD j (0, 0) = y at *
    generalize hx : A.getD (j + 1) (0, 0) = x at *
    obtain ⟨y1, y2⟩ := y
    obtain ⟨x1, x2⟩ := x
    dsimp only at *
    unfold MX at f3 g3
    have hs1 : SgL F len p (numT (y1 - x2 - 2)) := hs.left
    have hs2 : SgL F len (p + (numT (y1 - x2 - 2)).size) (numsT ((x2 - x1) :: (gapL A (j + 1 + n)).drop (2 * (j + 1)))) := hs.right
    have hs3 : SgL F len (p + (numT (y1 - x2 - 2)).size) (numT (x2 - x1)) := hs2.left
    have hs4 := hs2.right
    have hsz : (numsT ((y1 - x2 - 2) :: (x2 - x1) :: (gapL A (j + 1 + n)).drop (2 * (j + 1)))).size = (numT (y1 - x2 - 2)).size + ((numT (x2 - x1)).size + (numsT ((gapL A (j + 1 + n)).drop (2 * (j + 1)))).size) := by
      show (numT _ ++ (numT _ ++ numsT _)).size = _
      rw [size_append, size_append]
    rw [hsz] at hl
    have h3 : ¬ (3 : Int) = 0 := by decide
    unfold rAcks
    dsimp only
    rw [hlast]
    dsimp only
    by_cases c1 : len < p + (numT (y1 - x2 - 2)).size
    · rw [most_cut hs1 hp c1 (by omega) (by unfold MX; omega)]
      dsimp only
      unfold rSpan
      rw [most_err F len _ (show ¬ (⟨p, 3⟩ : At).e = 0 from h3)]
      dsimp only
      rw [acks_err F len _ _ _ (show ¬ (⟨p, 3⟩ : At).e = 0 from h3)]
    rw [most_back (hs1.full (by omega)) (by omega) (by omega) (by unfold MX; omega) (by omega)]
    dsimp only
    rw [show y1 - 2 - (((y1 - x2 - 2).toNat : Nat) : Int) = x2 by omega]
    by_cases c2 : len < p + (numT (y1 - x2 - 2)).size + (numT (x2 - x1)).size
    · unfold rSpan
      rw [most_cut hs3 (by omega) c2 (by omega) (by unfold MX; omega)]
      dsimp only
      rw [acks_err F len _ _ _ (show ¬ (⟨p + (numT (y1 - x2 - 2)).size, 3⟩ : At).e = 0 from h3)]
    rw [span_back (hs3.full (by omega)) (by omega) g1 g2 (by unfold MX; omega)]
    dsimp only
    rw [← htk]
    exact gaps_cut A hf n (j + 1) _ (by omega) hs4 (by omega) (by omega)
theorem ack_cut {F : Nat → BitVec 8} {len p : Nat} (N : Int) (A : List (Int × Int)) (hf : falling A) (hN : 0 ≤ N ∧ N ≤ MX) (h : SgL F len p (numsT (acksL N A))) (hp : p ≤ len) (hl : len < p + (numsT (acksL N A)).size) :
    (rAckF F len ⟨p, 0⟩).2.2.e = 3 := by
  obtain ⟨⟨hn1, hn2⟩, hfa⟩ := hf
  have e : acksL N A = (A.getD 0 (0, 0)).2 :: N :: ((A.length : Int) - 1) :: ((A.getD 0 (0, 0)).2 - (A.getD 0 (0, 0)).1) :: gapL A (A.length - 1) := rfl
  obtain ⟨f1, f2, f3⟩ := fallF_at A MX hfa 0 (by omega)
  have ht : A.take (0 + 1) = [A.getD 0 (0, 0)] := by
    rw [List.take_succ_eq_append_getElem (show 0 < A.length by omega), List.getD_eq_getElem?_getD, List.getElem?_eq_getElem (by omega)]
    rfl
  have gb := fun q hq1 hq2 hq3 => gaps_cut (F := F) (len := len) A hfa (A.length - 1) 0 q (by omega) hq1 hq2 hq3
  rw [Nat.zero_add, Nat.mul_zero, List.drop_zero, ht] at gb
  rw [e] at h hl
  generalize A.getD 0 (0, 0) = x at *
  obtain ⟨x1, x2⟩ := x
  dsimp only at *
  have h1 : SgL F len p (numT x2) := h.left
  have h2 := (show SgL F len (p + (numT x2).size) (numsT (N :: ((A.length : Int) - 1) :: (x2 - x1) :: gapL A (A.length - 1))) from h.right)
  have h3 : SgL F len (p + (numT x2).size) (numT N) := h2.left
  have h4 := (show SgL F len (p + (numT x2).size + (numT N).size) (numsT (((A.length : Int) - 1) :: (x2 - x1) :: gapL A (A.length - 1))) from h2.right)
  have h5 : SgL F len (p + (numT x2).size + (numT N).size) (numT ((A.length : Int) - 1)) := h4.left
  have h6 := (show SgL F len (p + (numT x2).size + (numT N).size + (numT ((A.length : Int) - 1)).size) (numsT ((x2 - x1) :: gapL A (A.length - 1))) from h4.right)
  have h7 : SgL F len (p + (numT x2).size + (numT N).size + (numT ((A.length : Int) - 1)).size) (numT (x2 - x1)) := h6.left
  have h8 := (show SgL F len (p + (numT x2).size + (numT N).size + (numT ((A.length : Int) - 1)).size + (numT (x2 - x1)).size) (numsT (gapL A (A.length - 1))) from h6.right)
  have hsz : (numsT (x2 :: N :: ((A.length : Int) - 1) :: (x2 - x1) :: gapL A (A.length - 1))).size = (numT x2).size + ((numT N).size + ((numT ((A.length : Int) - 1)).size + ((numT (x2 - x1)).size + (numsT (gapL A (A.length - 1))).size))) := by
    show (numT _ ++ (numT _ ++ (numT _ ++ (numT _ ++ numsT _)))).size = _
    rw [size_append, size_append, size_append, size_append]
  rw [hsz] at hl
  have h33 : ¬ (3 : Int) = 0 := by decide
  have ne : ∀ q : Nat, ¬ (⟨q, 3⟩ : At).e = 0 := fun q => h33
  unfold rAckF
  dsimp only
  by_cases c1 : len < p + (numT x2).size
  · rw [num_cut h1 hp c1 (by omega) f3]
    dsimp only
    rw [num_err F len (ne _)]
    dsimp only
    rw [most_err F len _ (ne _)]
    dsimp only
    unfold rSpan
    rw [most_err F len _ (ne _)]
    dsimp only
    rw [acks_err F len _ _ _ (ne _)]
  rw [num_back (h1.full (by omega)) (by omega) (by omega) f3]
  dsimp only
  by_cases c2 : len < p + (numT x2).size + (numT N).size
  · rw [num_cut h3 (by omega) c2 hN.1 hN.2]
    dsimp only
    rw [most_err F len _ (ne _)]
    dsimp only
    unfold rSpan
    rw [most_err F len _ (ne _)]
    dsimp only
    rw [acks_err F len _ _ _ (ne _)]
  rw [num_back (h3.full (by omega)) (by omega) hN.1 hN.2]
  dsimp only
  by_cases c3 : len < p + (numT x2).size + (numT N).size + (numT ((A.length : Int) - 1)).size
  · rw [most_cut h5 (by omega) c3 (by omega) (by unfold MX; omega)]
    dsimp only
    unfold rSpan
    rw [most_err F len _ (ne _)]
    dsimp only
    rw [acks_err F len _ _ _ (ne _)]
  rw [most_back (h5.full (by omega)) (by omega) (by omega) (by unfold MX; omega) (by omega)]
  dsimp only
  rw [show ((x2.toNat : Nat) : Int) = x2 by omega]
  by_cases c4 : len < p + (numT x2).size + (numT N).size + (numT ((A.length : Int) - 1)).size + (numT (x2 - x1)).size
  · unfold rSpan
    rw [most_cut h7 (by omega) c4 (by omega) (by unfold MX at f3 ⊢; omega)]
    dsimp only
    rw [acks_err F len _ _ _ (ne _)]
  rw [span_back (h7.full (by omega)) (by omega) f1 f2 f3]
  dsimp only
  rw [show ((A.length : Int) - 1).toNat = A.length - 1 by omega]
  exact gb _ h8 (by omega) (by omega)
theorem part_cut {F : Nat → BitVec 8} {len p : Nat} (f g : Fr) (pt : Nat) (hpt : pt ≤ 9) (h5 : pt ≠ 5) (hfit : fitsF f pt) (hO : f.O ≤ MX) (h : SgL F len p (appF f pt)) (hp : p ≤ len) (hl : len < p + (appF f pt).size) :
    (rPart F len g ⟨p, 0⟩ pt).2.e = 3 := by
  have ne : ∀ q : Nat, ¬ (⟨q, 3⟩ : At).e = 0 := fun q => (by decide : ¬ (3 : Int) = 0)
  match pt, hpt with
  | 0, _ =>
    obtain ⟨h0, h1⟩ := (show 0 ≤ f.S ∧ f.S ≤ MX from hfit)
    show (rNum F len ⟨p, 0⟩).2.e = 3
    rw [num_cut (x := f.S) h hp hl h0 h1]
  | 1, _ =>
    show (rNum F len ⟨p, 0⟩).2.e = 3
    rw [num_cut (x := f.O) h hp hl hfit.1 hO]
  | 2, _ =>
    show (rNum F len ⟨p, 0⟩).2.e = 3
    rw [num_cut (x := f.N) h hp hl hfit.1 (Int.le_trans hfit.2 (mostN_le f))]
  | 3, _ =>
    obtain ⟨h0, h1⟩ := (show 0 ≤ f.C ∧ f.C ≤ MX from hfit)
    show (rNum F len ⟨p, 0⟩).2.e = 3
    rw [num_cut (x := f.C) h hp hl h0 h1]
  | 4, _ =>
    have h2 : (f.D.size : Int) ≤ 65535 := hfit.2
    have hs : (appF f 4).size = (numT (f.D.size : Int)).size + f.D.size := size_append _ _
    have hh : SgL F len p (numT (f.D.size : Int) ++ f.D) := h
    rw [hs] at hl
    show (rText F len (rMost F len 65535 ⟨p, 0⟩).1 (rMost F len 65535 ⟨p, 0⟩).2).2.e = 3
    by_cases c1 : len < p + (numT (f.D.size : Int)).size
    · rw [most_cut hh.left hp c1 (by omega) (by unfold MX; omega)]
      dsimp only
      rw [text_err F len _ (ne _)]
    rw [most_back (hh.left.full (by omega)) (by omega) (by omega) (by unfold MX; omega) h2]
    dsimp only
    rw [Int.toNat_natCast, text_cut F (by omega) (by omega)]
  | 6, _ =>
    have h1 : (1 : Int) ≤ f.D.size ∧ (f.D.size : Int) ≤ 20 := hfit
    have hb : (byteT f.D.size).size = 1 := strOf_size _ _
    have hs : (appF f 6).size = 1 + f.D.size := by show (byteT _ ++ f.D).size = _; rw [size_append, hb]
    have hh : SgL F len p (byteT f.D.size ++ f.D) := h
    rw [hs] at hl
    show (rId F len ⟨p, 0⟩).2.e = 3
    unfold rId
    by_cases c1 : len < p + 1
    · rw [text_cut F c1 hp]
      dsimp only
      rw [if_neg (by decide)]
    have hl1 := hh.left.full (by omega)
    have h0 := byteT_at hl1
    have hc : (F p).toNat = f.D.size := by rw [h0, BitVec.toNat_ofNat]; omega
    have e1 : rText F len 1 ⟨p, 0⟩ = (byteT f.D.size, ⟨p + 1, 0⟩) := text_back hl1 hb (by omega)
    have e2 : rNeed true ⟨p + 1, 0⟩ = ⟨p + 1, 0⟩ := rfl
    rw [e1]
    dsimp only
    rw [if_pos rfl, hc, within_t h1, e2, text_cut F (by omega) (by omega)]
  | 7, _ =>
    have h8 : (appF f 7).size = 8 := by have : (f.D.size : Int) = 8 := hfit; show f.D.size = 8; omega
    show (rText F len 8 ⟨p, 0⟩).2.e = 3
    rw [text_cut F (by omega) hp]
  | 8, _ =>
    have h8 : (appF f 8).size = 16 := by have : (f.X.size : Int) = 16 := hfit; show f.X.size = 16; omega
    show (rText F len 16 ⟨p, 0⟩).2.e = 3
    rw [text_cut F (by omega) hp]
  | 9, _ => exact ack_cut f.N f.A hfit.2 hfit.1 h hp hl
theorem parts_cut {F : Nat → BitVec 8} {len : Nat} (f : Fr) (hO : f.O ≤ MX) : ∀ (ps : List Nat) (g : Fr) (p : Nat), (∀ q ∈ ps, q ≤ 9 ∧ q ≠ 5 ∧ fitsF f q) → g.K = f.K → (f.K ≠ 24 ∨ g.N = f.N ∨ ∃ l, ps = 2 :: l) → SgL F len p (partsT f ps) → p ≤ len → len < p + (partsT f ps).size →
    (rParts F len ps g ⟨p, 0⟩).2.e = 3
  | [], g, p, _, _, _, _, _, hl => absurd hl (by show ¬ len < p + 0; omega)
  | q :: l, g, p, hq, hK, ho, h, hp, hl => by
    have h1 := hq q (List.mem_cons_self ..)
    have hs : (partsT f (q :: l)).size = (appF f q).size + (partsT f l).size := size_append _ _
    rw [hs] at hl
    have hh : SgL F len p (appF f q ++ partsT f l) := h
    by_cases c1 : len < p + (appF f q).size
    · have e := part_cut f g q h1.1 h1.2.1 h1.2.2 hO hh.left hp c1
      unfold rParts
      rw [need_err _ (by rw [e]; decide), parts_err F len l _ _ (by rw [e]; decide), e]
    have e := part_back (len := len) f g q h1.1 h1.2.1 h1.2.2 hO (hh.left.full (by omega)) (by omega)
    have hf : fitsF (overF f g q) q := fits_over f g q hK h1.2.1 (fun hq1 => by
      rcases ho with h3 | h3 | ⟨l', h3⟩
      · exact .inr h3
      · exact .inl h3
      · injection h3 with h3 _; omega) h1.2.2
    have hn : rNeed true ⟨p + (appF f q).size, 0⟩ = ⟨p + (appF f q).size, 0⟩ := rfl
    have hi := parts_cut (F := F) (len := len) f hO l (overF f g q) (p + (appF f q).size) (fun r hr => hq r (List.mem_cons_of_mem _ hr)) ((over_K ..).trans hK) (by
      rcases ho with h3 | h3 | ⟨l', h3⟩
      · exact .inl h3
      · exact .inr (.inl (over_N f g q h3))
      · injection h3 with h3 _; subst h3; exact .inr (.inl rfl)) hh.right (by omega) (by omega)
    unfold rParts
    rw [e]
    dsimp only
    rw [decide_eq_true hf, hn]
    exact hi
end Go.Proofs.YtcgbhcmgddgheabDoor
namespace Go.Proofs.YtcgbhcmgddgheabDoor
open Go Go.RowKit Go.BigFrame
set_option linter.unusedSimpArgs false
set_option linter.unusedVariables false
set_option maxRecDepth 100000
theorem empty_of {X : ByteArray} (h : X.size = 0) : X = ⟨#[]⟩ := by
  apply ByteArray.ext
  exact Array.eq_empty_of_size_eq_zero h
/-- A frame that Put takes: its parts make it again. -/
structure Shape (f : Fr) (ps : List Nat) : Prop where
  o : f.O ≤ MX
  first : 0 ≤ firstF f ∧ firstF f < 256
  kind : (fr0 (firstF f)).K = f.K
  over : ps.foldl (overF f) (fr0 (firstF f)) = f
  low : (f.K = 0 ∧ ps = [10]) ∨ (f.K ≠ 0 ∧ 1 ≤ firstF f ∧ ∀ q ∈ ps, q ≤ 9 ∧ q ≠ 5)
  ord : f.K ≠ 24 ∨ ∃ l, ps = 2 :: l
theorem low_of {l : List Nat} (h : l.all (fun q => decide (q ≤ 9) && decide (q ≠ 5)) = true) : ∀ q ∈ l, q ≤ 9 ∧ q ≠ 5 := fun q hq => by
  have h1 := (List.all_eq_true.1 h) q hq
  simpa using h1
theorem shape_of (f : Fr) (ps : List Nat) (hp : partsL (firstF f) = some ps) (hfit : ∀ q ∈ ps, fitsF f q) (hz : zeroF (unfin (clearsF f ps) f.K)) : Shape f ps := by
  obtain ⟨K, S, O, N, C, F, D, X, A⟩ := f
  by_cases h8 : K = 8
  · subst h8
    by_cases hO : O = 0
    · subst hO
      cases F
      · have hfst : ∀ S N C D X A, firstF ⟨8, S, 0, N, C, false, D, X, A⟩ = 10 := fun S N C D X A => by
          unfold firstF
          dsimp only
          rw [if_pos rfl, if_pos rfl, if_neg (by decide)]
        rw [hfst] at hp
        have hpl : partsL 10 = some [0, 4] := rfl
        rw [hpl] at hp
        injection hp with hp
        subst hp
        obtain ⟨z1, z2, z3, z4, z5, z6, z7, z8⟩ := hz
        obtain rfl : N = 0 := z3
        obtain rfl : C = 0 := z4
        obtain rfl : X = ⟨#[]⟩ := empty_of z7
        obtain rfl : A = [] := List.eq_nil_of_length_eq_zero z8
        have ho : (0 : Int) ≤ MX := by unfold MX; omega
        have e : firstF ⟨8, S, 0, 0, 0, false, D, ⟨#[]⟩, []⟩ = 10 := hfst _ _ _ _ _ _
        refine ⟨ho, by rw [e]; omega, by rw [e]; rfl, by rw [e]; rfl, .inr ⟨show (8 : Int) ≠ 0 by decide, by rw [e]; omega, low_of (by decide)⟩, .inl (show (8 : Int) ≠ 24 by decide)⟩
      · have hfst : ∀ S N C D X A, firstF ⟨8, S, 0, N, C, true, D, X, A⟩ = 11 := fun S N C D X A => by
          unfold firstF
          dsimp only
          rw [if_pos rfl, if_pos rfl, if_pos rfl]
        rw [hfst] at hp
        have hpl : partsL 11 = some [0, 4] := rfl
        rw [hpl] at hp
        injection hp with hp
        subst hp
        obtain ⟨z1, z2, z3, z4, z5, z6, z7, z8⟩ := hz
        obtain rfl : N = 0 := z3
        obtain rfl : C = 0 := z4
        obtain rfl : X = ⟨#[]⟩ := empty_of z7
        obtain rfl : A = [] := List.eq_nil_of_length_eq_zero z8
        have ho : (0 : Int) ≤ MX := by unfold MX; omega
        have e : firstF ⟨8, S, 0, 0, 0, true, D, ⟨#[]⟩, []⟩ = 11 := hfst _ _ _ _ _ _
        refine ⟨ho, by rw [e]; omega, by rw [e]; rfl, by rw [e]; rfl, .inr ⟨show (8 : Int) ≠ 0 by decide, by rw [e]; omega, low_of (by decide)⟩, .inl (show (8 : Int) ≠ 24 by decide)⟩
    · cases F
      · have hfst : ∀ S N C D X A, firstF ⟨8, S, O, N, C, false, D, X, A⟩ = 14 := fun S N C D X A => by
          unfold firstF
          dsimp only
          rw [if_pos rfl, if_neg hO, if_neg (by decide)]
        rw [hfst] at hp
        have hpl : partsL 14 = some [0, 1, 4] := rfl
        rw [hpl] at hp
        injection hp with hp
        subst hp
        obtain ⟨z1, z2, z3, z4, z5, z6, z7, z8⟩ := hz
        obtain rfl : N = 0 := z3
        obtain rfl : C = 0 := z4
        obtain rfl : X = ⟨#[]⟩ := empty_of z7
        obtain rfl : A = [] := List.eq_nil_of_length_eq_zero z8
        have ho : O ≤ MX := (hfit 1 (by simp)).2
        have e : firstF ⟨8, S, O, 0, 0, false, D, ⟨#[]⟩, []⟩ = 14 := hfst _ _ _ _ _ _
        refine ⟨ho, by rw [e]; omega, by rw [e]; rfl, by rw [e]; rfl, .inr ⟨show (8 : Int) ≠ 0 by decide, by rw [e]; omega, low_of (by decide)⟩, .inl (show (8 : Int) ≠ 24 by decide)⟩
      · have hfst : ∀ S N C D X A, firstF ⟨8, S, O, N, C, true, D, X, A⟩ = 15 := fun S N C D X A => by
          unfold firstF
          dsimp only
          rw [if_pos rfl, if_neg hO, if_pos rfl]
        rw [hfst] at hp
        have hpl : partsL 15 = some [0, 1, 4] := rfl
        rw [hpl] at hp
        injection hp with hp
        subst hp
        obtain ⟨z1, z2, z3, z4, z5, z6, z7, z8⟩ := hz
        obtain rfl : N = 0 := z3
        obtain rfl : C = 0 := z4
        obtain rfl : X = ⟨#[]⟩ := empty_of z7
        obtain rfl : A = [] := List.eq_nil_of_length_eq_zero z8
        have ho : O ≤ MX := (hfit 1 (by simp)).2
        have e : firstF ⟨8, S, O, 0, 0, true, D, ⟨#[]⟩, []⟩ = 15 := hfst _ _ _ _ _ _
        refine ⟨ho, by rw [e]; omega, by rw [e]; rfl, by rw [e]; rfl, .inr ⟨show (8 : Int) ≠ 0 by decide, by rw [e]; omega, low_of (by decide)⟩, .inl (show (8 : Int) ≠ 24 by decide)⟩
  by_cases h0 : K = 0
  · subst h0
    have hf : firstF ⟨0, S, O, N, C, F, D, X, A⟩ = 0 := rfl
    rw [hf] at hp
    have hpl : partsL 0 = some [10] := rfl
    rw [hpl] at hp
    injection hp with hp
    subst hp
    obtain ⟨z1, z2, z3, z4, z5, z6, z7, z8⟩ := hz
    obtain rfl : S = 0 := z1
    obtain rfl : O = 0 := z2
    obtain rfl : C = 0 := z4
    obtain rfl : F = false := z5
    obtain rfl : D = ⟨#[]⟩ := empty_of z6
    obtain rfl : X = ⟨#[]⟩ := empty_of z7
    obtain rfl : A = [] := List.eq_nil_of_length_eq_zero z8
    have ho : (0 : Int) ≤ MX := by unfold MX; omega
    have e : firstF ⟨0, 0, 0, N, 0, false, ⟨#[]⟩, ⟨#[]⟩, []⟩ = 0 := rfl
    refine ⟨ho, by rw [e]; omega, by rw [e]; rfl, by rw [e]; rfl, .inl ⟨rfl, rfl⟩, .inl (show (0 : Int) ≠ 24 by decide)⟩
  by_cases h1 : K = 1
  · subst h1
    have hf : firstF ⟨1, S, O, N, C, F, D, X, A⟩ = 1 := rfl
    rw [hf] at hp
    have hpl : partsL 1 = some [] := rfl
    rw [hpl] at hp
    injection hp with hp
    subst hp
    obtain ⟨z1, z2, z3, z4, z5, z6, z7, z8⟩ := hz
    obtain rfl : S = 0 := z1
    obtain rfl : O = 0 := z2
    obtain rfl : N = 0 := z3
    obtain rfl : C = 0 := z4
    obtain rfl : F = false := z5
    obtain rfl : D = ⟨#[]⟩ := empty_of z6
    obtain rfl : X = ⟨#[]⟩ := empty_of z7
    obtain rfl : A = [] := List.eq_nil_of_length_eq_zero z8
    have ho : (0 : Int) ≤ MX := by unfold MX; omega
    have e : firstF ⟨1, 0, 0, 0, 0, false, ⟨#[]⟩, ⟨#[]⟩, []⟩ = 1 := rfl
    refine ⟨ho, by rw [e]; omega, by rw [e]; rfl, by rw [e]; rfl, .inr ⟨show (1 : Int) ≠ 0 by decide, by rw [e]; omega, low_of (by decide)⟩, .inl (show (1 : Int) ≠ 24 by decide)⟩
  by_cases h30 : K = 30
  · subst h30
    have hf : firstF ⟨30, S, O, N, C, F, D, X, A⟩ = 30 := rfl
    rw [hf] at hp
    have hpl : partsL 30 = some [] := rfl
    rw [hpl] at hp
    injection hp with hp
    subst hp
    obtain ⟨z1, z2, z3, z4, z5, z6, z7, z8⟩ := hz
    obtain rfl : S = 0 := z1
    obtain rfl : O = 0 := z2
    obtain rfl : N = 0 := z3
    obtain rfl : C = 0 := z4
    obtain rfl : F = false := z5
    obtain rfl : D = ⟨#[]⟩ := empty_of z6
    obtain rfl : X = ⟨#[]⟩ := empty_of z7
    obtain rfl : A = [] := List.eq_nil_of_length_eq_zero z8
    have ho : (0 : Int) ≤ MX := by unfold MX; omega
    have e : firstF ⟨30, 0, 0, 0, 0, false, ⟨#[]⟩, ⟨#[]⟩, []⟩ = 30 := rfl
    refine ⟨ho, by rw [e]; omega, by rw [e]; rfl, by rw [e]; rfl, .inr ⟨show (30 : Int) ≠ 0 by decide, by rw [e]; omega, low_of (by decide)⟩, .inl (show (30 : Int) ≠ 24 by decide)⟩
  by_cases h2 : K = 2
  · subst h2
    have hf : firstF ⟨2, S, O, N, C, F, D, X, A⟩ = 2 := rfl
    rw [hf] at hp
    have hpl : partsL 2 = some [9] := rfl
    rw [hpl] at hp
    injection hp with hp
    subst hp
    obtain ⟨z1, z2, z3, z4, z5, z6, z7, z8⟩ := hz
    obtain rfl : S = 0 := z1
    obtain rfl : O = 0 := z2
    obtain rfl : C = 0 := z4
    obtain rfl : F = false := z5
    obtain rfl : D = ⟨#[]⟩ := empty_of z6
    obtain rfl : X = ⟨#[]⟩ := empty_of z7
    have ho : (0 : Int) ≤ MX := by unfold MX; omega
    have e : firstF ⟨2, 0, 0, N, 0, false, ⟨#[]⟩, ⟨#[]⟩, A⟩ = 2 := rfl
    refine ⟨ho, by rw [e]; omega, by rw [e]; rfl, by rw [e]; rfl, .inr ⟨show (2 : Int) ≠ 0 by decide, by rw [e]; omega, low_of (by decide)⟩, .inl (show (2 : Int) ≠ 24 by decide)⟩
  by_cases h4 : K = 4
  · subst h4
    have hf : firstF ⟨4, S, O, N, C, F, D, X, A⟩ = 4 := rfl
    rw [hf] at hp
    have hpl : partsL 4 = some [0, 3, 1] := rfl
    rw [hpl] at hp
    injection hp with hp
    subst hp
    obtain ⟨z1, z2, z3, z4, z5, z6, z7, z8⟩ := hz
    obtain rfl : N = 0 := z3
    obtain rfl : F = false := z5
    obtain rfl : D = ⟨#[]⟩ := empty_of z6
    obtain rfl : X = ⟨#[]⟩ := empty_of z7
    obtain rfl : A = [] := List.eq_nil_of_length_eq_zero z8
    have ho : O ≤ MX := (hfit 1 (by simp)).2
    have e : firstF ⟨4, S, O, 0, C, false, ⟨#[]⟩, ⟨#[]⟩, []⟩ = 4 := rfl
    refine ⟨ho, by rw [e]; omega, by rw [e]; rfl, by rw [e]; rfl, .inr ⟨show (4 : Int) ≠ 0 by decide, by rw [e]; omega, low_of (by decide)⟩, .inl (show (4 : Int) ≠ 24 by decide)⟩
  by_cases h5 : K = 5
  · subst h5
    have hf : firstF ⟨5, S, O, N, C, F, D, X, A⟩ = 5 := rfl
    rw [hf] at hp
    have hpl : partsL 5 = some [0, 3] := rfl
    rw [hpl] at hp
    injection hp with hp
    subst hp
    obtain ⟨z1, z2, z3, z4, z5, z6, z7, z8⟩ := hz
    obtain rfl : O = 0 := z2
    obtain rfl : N = 0 := z3
    obtain rfl : F = false := z5
    obtain rfl : D = ⟨#[]⟩ := empty_of z6
    obtain rfl : X = ⟨#[]⟩ := empty_of z7
    obtain rfl : A = [] := List.eq_nil_of_length_eq_zero z8
    have ho : (0 : Int) ≤ MX := by unfold MX; omega
    have e : firstF ⟨5, S, 0, 0, C, false, ⟨#[]⟩, ⟨#[]⟩, []⟩ = 5 := rfl
    refine ⟨ho, by rw [e]; omega, by rw [e]; rfl, by rw [e]; rfl, .inr ⟨show (5 : Int) ≠ 0 by decide, by rw [e]; omega, low_of (by decide)⟩, .inl (show (5 : Int) ≠ 24 by decide)⟩
  by_cases h6 : K = 6
  · subst h6
    have hf : firstF ⟨6, S, O, N, C, F, D, X, A⟩ = 6 := rfl
    rw [hf] at hp
    have hpl : partsL 6 = some [1, 4] := rfl
    rw [hpl] at hp
    injection hp with hp
    subst hp
    obtain ⟨z1, z2, z3, z4, z5, z6, z7, z8⟩ := hz
    obtain rfl : S = 0 := z1
    obtain rfl : N = 0 := z3
    obtain rfl : C = 0 := z4
    obtain rfl : F = false := z5
    obtain rfl : X = ⟨#[]⟩ := empty_of z7
    obtain rfl : A = [] := List.eq_nil_of_length_eq_zero z8
    have ho : O ≤ MX := (hfit 1 (by simp)).2
    have e : firstF ⟨6, 0, O, 0, 0, false, D, ⟨#[]⟩, []⟩ = 6 := rfl
    refine ⟨ho, by rw [e]; omega, by rw [e]; rfl, by rw [e]; rfl, .inr ⟨show (6 : Int) ≠ 0 by decide, by rw [e]; omega, low_of (by decide)⟩, .inl (show (6 : Int) ≠ 24 by decide)⟩
  by_cases h7 : K = 7
  · subst h7
    have hf : firstF ⟨7, S, O, N, C, F, D, X, A⟩ = 7 := rfl
    rw [hf] at hp
    have hpl : partsL 7 = some [4] := rfl
    rw [hpl] at hp
    injection hp with hp
    subst hp
    obtain ⟨z1, z2, z3, z4, z5, z6, z7, z8⟩ := hz
    obtain rfl : S = 0 := z1
    obtain rfl : O = 0 := z2
    obtain rfl : N = 0 := z3
    obtain rfl : C = 0 := z4
    obtain rfl : F = false := z5
    obtain rfl : X = ⟨#[]⟩ := empty_of z7
    obtain rfl : A = [] := List.eq_nil_of_length_eq_zero z8
    have ho : (0 : Int) ≤ MX := by unfold MX; omega
    have e : firstF ⟨7, 0, 0, 0, 0, false, D, ⟨#[]⟩, []⟩ = 7 := rfl
    refine ⟨ho, by rw [e]; omega, by rw [e]; rfl, by rw [e]; rfl, .inr ⟨show (7 : Int) ≠ 0 by decide, by rw [e]; omega, low_of (by decide)⟩, .inl (show (7 : Int) ≠ 24 by decide)⟩
  by_cases h16 : K = 16
  · subst h16
    have hf : firstF ⟨16, S, O, N, C, F, D, X, A⟩ = 16 := rfl
    rw [hf] at hp
    have hpl : partsL 16 = some [2] := rfl
    rw [hpl] at hp
    injection hp with hp
    subst hp
    obtain ⟨z1, z2, z3, z4, z5, z6, z7, z8⟩ := hz
    obtain rfl : S = 0 := z1
    obtain rfl : O = 0 := z2
    obtain rfl : C = 0 := z4
    obtain rfl : F = false := z5
    obtain rfl : D = ⟨#[]⟩ := empty_of z6
    obtain rfl : X = ⟨#[]⟩ := empty_of z7
    obtain rfl : A = [] := List.eq_nil_of_length_eq_zero z8
    have ho : (0 : Int) ≤ MX := by unfold MX; omega
    have e : firstF ⟨16, 0, 0, N, 0, false, ⟨#[]⟩, ⟨#[]⟩, []⟩ = 16 := rfl
    refine ⟨ho, by rw [e]; omega, by rw [e]; rfl, by rw [e]; rfl, .inr ⟨show (16 : Int) ≠ 0 by decide, by rw [e]; omega, low_of (by decide)⟩, .inl (show (16 : Int) ≠ 24 by decide)⟩
  by_cases h20 : K = 20
  · subst h20
    have hf : firstF ⟨20, S, O, N, C, F, D, X, A⟩ = 20 := rfl
    rw [hf] at hp
    have hpl : partsL 20 = some [2] := rfl
    rw [hpl] at hp
    injection hp with hp
    subst hp
    obtain ⟨z1, z2, z3, z4, z5, z6, z7, z8⟩ := hz
    obtain rfl : S = 0 := z1
    obtain rfl : O = 0 := z2
    obtain rfl : C = 0 := z4
    obtain rfl : F = false := z5
    obtain rfl : D = ⟨#[]⟩ := empty_of z6
    obtain rfl : X = ⟨#[]⟩ := empty_of z7
    obtain rfl : A = [] := List.eq_nil_of_length_eq_zero z8
    have ho : (0 : Int) ≤ MX := by unfold MX; omega
    have e : firstF ⟨20, 0, 0, N, 0, false, ⟨#[]⟩, ⟨#[]⟩, []⟩ = 20 := rfl
    refine ⟨ho, by rw [e]; omega, by rw [e]; rfl, by rw [e]; rfl, .inr ⟨show (20 : Int) ≠ 0 by decide, by rw [e]; omega, low_of (by decide)⟩, .inl (show (20 : Int) ≠ 24 by decide)⟩
  by_cases h25 : K = 25
  · subst h25
    have hf : firstF ⟨25, S, O, N, C, F, D, X, A⟩ = 25 := rfl
    rw [hf] at hp
    have hpl : partsL 25 = some [2] := rfl
    rw [hpl] at hp
    injection hp with hp
    subst hp
    obtain ⟨z1, z2, z3, z4, z5, z6, z7, z8⟩ := hz
    obtain rfl : S = 0 := z1
    obtain rfl : O = 0 := z2
    obtain rfl : C = 0 := z4
    obtain rfl : F = false := z5
    obtain rfl : D = ⟨#[]⟩ := empty_of z6
    obtain rfl : X = ⟨#[]⟩ := empty_of z7
    obtain rfl : A = [] := List.eq_nil_of_length_eq_zero z8
    have ho : (0 : Int) ≤ MX := by unfold MX; omega
    have e : firstF ⟨25, 0, 0, N, 0, false, ⟨#[]⟩, ⟨#[]⟩, []⟩ = 25 := rfl
    refine ⟨ho, by rw [e]; omega, by rw [e]; rfl, by rw [e]; rfl, .inr ⟨show (25 : Int) ≠ 0 by decide, by rw [e]; omega, low_of (by decide)⟩, .inl (show (25 : Int) ≠ 24 by decide)⟩
  by_cases h18 : K = 18
  · subst h18
    have hf : firstF ⟨18, S, O, N, C, F, D, X, A⟩ = 18 := rfl
    rw [hf] at hp
    have hpl : partsL 18 = some [2] := rfl
    rw [hpl] at hp
    injection hp with hp
    subst hp
    obtain ⟨z1, z2, z3, z4, z5, z6, z7, z8⟩ := hz
    obtain rfl : S = 0 := z1
    obtain rfl : O = 0 := z2
    obtain rfl : C = 0 := z4
    obtain rfl : F = false := z5
    obtain rfl : D = ⟨#[]⟩ := empty_of z6
    obtain rfl : X = ⟨#[]⟩ := empty_of z7
    obtain rfl : A = [] := List.eq_nil_of_length_eq_zero z8
    have ho : (0 : Int) ≤ MX := by unfold MX; omega
    have e : firstF ⟨18, 0, 0, N, 0, false, ⟨#[]⟩, ⟨#[]⟩, []⟩ = 18 := rfl
    refine ⟨ho, by rw [e]; omega, by rw [e]; rfl, by rw [e]; rfl, .inr ⟨show (18 : Int) ≠ 0 by decide, by rw [e]; omega, low_of (by decide)⟩, .inl (show (18 : Int) ≠ 24 by decide)⟩
  by_cases h22 : K = 22
  · subst h22
    have hf : firstF ⟨22, S, O, N, C, F, D, X, A⟩ = 22 := rfl
    rw [hf] at hp
    have hpl : partsL 22 = some [2] := rfl
    rw [hpl] at hp
    injection hp with hp
    subst hp
    obtain ⟨z1, z2, z3, z4, z5, z6, z7, z8⟩ := hz
    obtain rfl : S = 0 := z1
    obtain rfl : O = 0 := z2
    obtain rfl : C = 0 := z4
    obtain rfl : F = false := z5
    obtain rfl : D = ⟨#[]⟩ := empty_of z6
    obtain rfl : X = ⟨#[]⟩ := empty_of z7
    obtain rfl : A = [] := List.eq_nil_of_length_eq_zero z8
    have ho : (0 : Int) ≤ MX := by unfold MX; omega
    have e : firstF ⟨22, 0, 0, N, 0, false, ⟨#[]⟩, ⟨#[]⟩, []⟩ = 22 := rfl
    refine ⟨ho, by rw [e]; omega, by rw [e]; rfl, by rw [e]; rfl, .inr ⟨show (22 : Int) ≠ 0 by decide, by rw [e]; omega, low_of (by decide)⟩, .inl (show (22 : Int) ≠ 24 by decide)⟩
  by_cases h17 : K = 17
  · subst h17
    have hf : firstF ⟨17, S, O, N, C, F, D, X, A⟩ = 17 := rfl
    rw [hf] at hp
    have hpl : partsL 17 = some [0, 2] := rfl
    rw [hpl] at hp
    injection hp with hp
    subst hp
    obtain ⟨z1, z2, z3, z4, z5, z6, z7, z8⟩ := hz
    obtain rfl : O = 0 := z2
    obtain rfl : C = 0 := z4
    obtain rfl : F = false := z5
    obtain rfl : D = ⟨#[]⟩ := empty_of z6
    obtain rfl : X = ⟨#[]⟩ := empty_of z7
    obtain rfl : A = [] := List.eq_nil_of_length_eq_zero z8
    have ho : (0 : Int) ≤ MX := by unfold MX; omega
    have e : firstF ⟨17, S, 0, N, 0, false, ⟨#[]⟩, ⟨#[]⟩, []⟩ = 17 := rfl
    refine ⟨ho, by rw [e]; omega, by rw [e]; rfl, by rw [e]; rfl, .inr ⟨show (17 : Int) ≠ 0 by decide, by rw [e]; omega, low_of (by decide)⟩, .inl (show (17 : Int) ≠ 24 by decide)⟩
  by_cases h21 : K = 21
  · subst h21
    have hf : firstF ⟨21, S, O, N, C, F, D, X, A⟩ = 21 := rfl
    rw [hf] at hp
    have hpl : partsL 21 = some [0, 2] := rfl
    rw [hpl] at hp
    injection hp with hp
    subst hp
    obtain ⟨z1, z2, z3, z4, z5, z6, z7, z8⟩ := hz
    obtain rfl : O = 0 := z2
    obtain rfl : C = 0 := z4
    obtain rfl : F = false := z5
    obtain rfl : D = ⟨#[]⟩ := empty_of z6
    obtain rfl : X = ⟨#[]⟩ := empty_of z7
    obtain rfl : A = [] := List.eq_nil_of_length_eq_zero z8
    have ho : (0 : Int) ≤ MX := by unfold MX; omega
    have e : firstF ⟨21, S, 0, N, 0, false, ⟨#[]⟩, ⟨#[]⟩, []⟩ = 21 := rfl
    refine ⟨ho, by rw [e]; omega, by rw [e]; rfl, by rw [e]; rfl, .inr ⟨show (21 : Int) ≠ 0 by decide, by rw [e]; omega, low_of (by decide)⟩, .inl (show (21 : Int) ≠ 24 by decide)⟩
  by_cases h24 : K = 24
  · subst h24
    have hf : firstF ⟨24, S, O, N, C, F, D, X, A⟩ = 24 := rfl
    rw [hf] at hp
    have hpl : partsL 24 = some [2, 1, 6, 8] := rfl
    rw [hpl] at hp
    injection hp with hp
    subst hp
    obtain ⟨z1, z2, z3, z4, z5, z6, z7, z8⟩ := hz
    obtain rfl : S = 0 := z1
    obtain rfl : C = 0 := z4
    obtain rfl : F = false := z5
    obtain rfl : A = [] := List.eq_nil_of_length_eq_zero z8
    have ho : O ≤ MX := Int.le_trans (hfit 1 (by simp)).2 (hfit 2 (by simp)).2
    have e : firstF ⟨24, 0, O, N, 0, false, D, X, []⟩ = 24 := rfl
    refine ⟨ho, by rw [e]; omega, by rw [e]; rfl, by rw [e]; rfl, .inr ⟨show (24 : Int) ≠ 0 by decide, by rw [e]; omega, low_of (by decide)⟩, .inr ⟨_, rfl⟩⟩
  by_cases h26 : K = 26
  · subst h26
    have hf : firstF ⟨26, S, O, N, C, F, D, X, A⟩ = 26 := rfl
    rw [hf] at hp
    have hpl : partsL 26 = some [7] := rfl
    rw [hpl] at hp
    injection hp with hp
    subst hp
    obtain ⟨z1, z2, z3, z4, z5, z6, z7, z8⟩ := hz
    obtain rfl : S = 0 := z1
    obtain rfl : O = 0 := z2
    obtain rfl : N = 0 := z3
    obtain rfl : C = 0 := z4
    obtain rfl : F = false := z5
    obtain rfl : X = ⟨#[]⟩ := empty_of z7
    obtain rfl : A = [] := List.eq_nil_of_length_eq_zero z8
    have ho : (0 : Int) ≤ MX := by unfold MX; omega
    have e : firstF ⟨26, 0, 0, 0, 0, false, D, ⟨#[]⟩, []⟩ = 26 := rfl
    refine ⟨ho, by rw [e]; omega, by rw [e]; rfl, by rw [e]; rfl, .inr ⟨show (26 : Int) ≠ 0 by decide, by rw [e]; omega, low_of (by decide)⟩, .inl (show (26 : Int) ≠ 24 by decide)⟩
  by_cases h27 : K = 27
  · subst h27
    have hf : firstF ⟨27, S, O, N, C, F, D, X, A⟩ = 27 := rfl
    rw [hf] at hp
    have hpl : partsL 27 = some [7] := rfl
    rw [hpl] at hp
    injection hp with hp
    subst hp
    obtain ⟨z1, z2, z3, z4, z5, z6, z7, z8⟩ := hz
    obtain rfl : S = 0 := z1
    obtain rfl : O = 0 := z2
    obtain rfl : N = 0 := z3
    obtain rfl : C = 0 := z4
    obtain rfl : F = false := z5
    obtain rfl : X = ⟨#[]⟩ := empty_of z7
    obtain rfl : A = [] := List.eq_nil_of_length_eq_zero z8
    have ho : (0 : Int) ≤ MX := by unfold MX; omega
    have e : firstF ⟨27, 0, 0, 0, 0, false, D, ⟨#[]⟩, []⟩ = 27 := rfl
    refine ⟨ho, by rw [e]; omega, by rw [e]; rfl, by rw [e]; rfl, .inr ⟨show (27 : Int) ≠ 0 by decide, by rw [e]; omega, low_of (by decide)⟩, .inl (show (27 : Int) ≠ 24 by decide)⟩
  by_cases h28 : K = 28
  · subst h28
    have hf : firstF ⟨28, S, O, N, C, F, D, X, A⟩ = 28 := rfl
    rw [hf] at hp
    have hpl : partsL 28 = some [3, 2, 4] := rfl
    rw [hpl] at hp
    injection hp with hp
    subst hp
    obtain ⟨z1, z2, z3, z4, z5, z6, z7, z8⟩ := hz
    obtain rfl : S = 0 := z1
    obtain rfl : O = 0 := z2
    obtain rfl : F = false := z5
    obtain rfl : X = ⟨#[]⟩ := empty_of z7
    obtain rfl : A = [] := List.eq_nil_of_length_eq_zero z8
    have ho : (0 : Int) ≤ MX := by unfold MX; omega
    have e : firstF ⟨28, 0, 0, N, C, false, D, ⟨#[]⟩, []⟩ = 28 := rfl
    refine ⟨ho, by rw [e]; omega, by rw [e]; rfl, by rw [e]; rfl, .inr ⟨show (28 : Int) ≠ 0 by decide, by rw [e]; omega, low_of (by decide)⟩, .inl (show (28 : Int) ≠ 24 by decide)⟩
  by_cases h29 : K = 29
  · subst h29
    have hf : firstF ⟨29, S, O, N, C, F, D, X, A⟩ = 29 := rfl
    rw [hf] at hp
    have hpl : partsL 29 = some [3, 4] := rfl
    rw [hpl] at hp
    injection hp with hp
    subst hp
    obtain ⟨z1, z2, z3, z4, z5, z6, z7, z8⟩ := hz
    obtain rfl : S = 0 := z1
    obtain rfl : O = 0 := z2
    obtain rfl : N = 0 := z3
    obtain rfl : F = false := z5
    obtain rfl : X = ⟨#[]⟩ := empty_of z7
    obtain rfl : A = [] := List.eq_nil_of_length_eq_zero z8
    have ho : (0 : Int) ≤ MX := by unfold MX; omega
    have e : firstF ⟨29, 0, 0, 0, C, false, D, ⟨#[]⟩, []⟩ = 29 := rfl
    refine ⟨ho, by rw [e]; omega, by rw [e]; rfl, by rw [e]; rfl, .inr ⟨show (29 : Int) ≠ 0 by decide, by rw [e]; omega, low_of (by decide)⟩, .inl (show (29 : Int) ≠ 24 by decide)⟩
  exfalso
  have hn : ∀ k : Int, k ≠ 0 → k ≠ 1 → k ≠ 30 → k ≠ 2 → k ≠ 4 → k ≠ 5 → k ≠ 6 → k ≠ 7 → k ≠ 16 → k ≠ 20 → k ≠ 25 → k ≠ 18 → k ≠ 22 → k ≠ 17 → k ≠ 21 → k ≠ 24 → k ≠ 26 → k ≠ 27 → k ≠ 28 → k ≠ 29 → ¬ (8 ≤ k ∧ k ≤ 15) → partsL k = none := fun k a0 a1 a2 a3 a4 a5 a6 a7 a8 a9 a10 a11 a12 a13 a14 a15 a16 a17 a18 a19 a20 => by
    unfold partsL
    rw [if_neg a0, if_neg a1, if_neg a2, if_neg a3, if_neg a4, if_neg a5, if_neg a6, if_neg a7, if_neg a8, if_neg a9, if_neg a10, if_neg a11, if_neg a12, if_neg a13, if_neg a14, if_neg a15, if_neg a16, if_neg a17, if_neg a18, if_neg a19, if_neg a20]
  by_cases h15 : 8 ≤ K ∧ K ≤ 15
  · have hf : firstF ⟨K, S, O, N, C, F, D, X, A⟩ = -1 := by
      unfold firstF
      dsimp only
      rw [if_neg h8, if_pos h15]
    rw [hf] at hp
    have hpl : partsL (-1) = none := rfl
    rw [hpl] at hp
    cases hp
  · have hf : firstF ⟨K, S, O, N, C, F, D, X, A⟩ = K := by
      unfold firstF
      dsimp only
      rw [if_neg h8, if_neg h15]
    rw [hf, hn K h0 h1 h30 h2 h4 h5 h6 h7 h16 h20 h25 h18 h22 h17 h21 h24 h26 h27 h28 h29 h15] at hp
    cases hp
theorem put_shape (f : Fr) (S : ByteArray) (h : putF f = some S) : ∃ ps, partsL (firstF f) = some ps ∧ S = byteT (firstF f).toNat ++ partsT f ps ∧ (∀ q ∈ ps, fitsF f q) ∧ endsF f ∧ Shape f ps := by
  unfold putF at h
  cases hp : partsL (firstF f) with
  | none => rw [hp] at h; cases h
  | some ps =>
    rw [hp] at h
    dsimp only at h
    by_cases hj : justF f ps ∧ endsF f
    · rw [if_pos hj] at h
      injection h with h
      exact ⟨ps, rfl, h.symm, hj.1.1, hj.2, shape_of f ps hp hj.1.1 hj.1.2⟩
    · rw [if_neg hj] at h; cases h
theorem nought_all {F : Nat → BitVec 8} {len : Nat} : ∀ (m n p : Nat), (∀ i, i < m → F (p + i) = 0#8) → p + m ≤ len → m ≤ n → (m < n → p + m < len → F (p + m) ≠ 0#8) → rNought F len n p = p + m
  | 0, n, p, _, hl, _, hs => by
    cases n with
    | zero => rfl
    | succ n => exact rNought_stop F len (n + 1) p (fun h => hs (by omega) (by omega) h.2)
  | m + 1, 0, p, _, _, hn, _ => absurd hn (by omega)
  | m + 1, n + 1, p, h, hl, hn, hs => by
    unfold rNought
    rw [if_pos ⟨by omega, h 0 (by omega)⟩, nought_all m n (p + 1) (fun i hi => by rw [show p + 1 + i = p + (i + 1) by omega]; exact h (i + 1) (by omega)) (by omega) (by omega) (fun h1 h2 => by rw [show p + 1 + m = p + (m + 1) by omega]; exact hs (by omega) (by omega))]
    omega
theorem byte_size (n : Nat) : (byteT n).size = 1 := strOf_size _ _
theorem put_size {f : Fr} {S : ByteArray} (h : putF f = some S) : 1 ≤ S.size := by
  obtain ⟨ps, _, e, _⟩ := put_shape f S h
  rw [e, size_append, byte_size]; omega
theorem put_first {F : Nat → BitVec 8} {f : Fr} {S : ByteArray} (h : putF f = some S) (hs : F 0 = bx S 0) : ((F 0).toNat : Int) = firstF f := by
  obtain ⟨ps, _, e, _, _, sh⟩ := put_shape f S h
  have hf := sh.first
  rw [hs, e, bx_left _ _ _ (by rw [byte_size]; omega)]
  unfold byteT
  rw [bx_of _ _ _ (by omega), BitVec.toNat_ofNat]
  omega
/-- The noughts' frame. -/
theorem noughts_shape {f : Fr} {ps : List Nat} (sh : Shape f ps) (hp : ps = [10]) (hK : f.K = 0) : ∀ g : Fr, g.K = 0 → firstF f = 0 → g = overF f (fr0 0) 10 → g = f := fun g _ h0 e => by
  have ho := sh.over
  rw [hp, h0] at ho
  rw [e]; exact ho
theorem get_back {F : Nat → BitVec 8} {len : Nat} (f : Fr) (S : ByteArray) (h : putF f = some S) (hs : Sg F 0 S) (hl : S.size ≤ len) (hz : f.K = 0 → S.size < len → F S.size ≠ 0#8) : getR F len = (f, S.size, 0) := by
  have hf0 := put_first h (by simpa using hs 0 (put_size h))
  obtain ⟨ps, hp, e, hfit, hend, sh⟩ := put_shape f S h
  have hsz : S.size = 1 + (partsT f ps).size := by rw [e, size_append, byte_size]
  have hr : Sg F 1 (partsT f ps) := by rw [e] at hs; exact Sg.shift hs.right (by rw [byte_size])
  have hn : ∀ p : Nat, rNeed true ⟨p, 0⟩ = ⟨p, 0⟩ := fun p => rfl
  unfold getR
  rw [if_neg (by omega), hf0, hp]
  dsimp only
  rcases sh.low with ⟨hK, hps⟩ | ⟨hK, h1, hlow⟩
  · have hfst : firstF f = 0 := by unfold firstF; rw [hK]; rfl
    have hfN : 1 ≤ f.N ∧ f.N ≤ 65535 := hfit 10 (by rw [hps]; simp)
    have hpt : partsT f ps = zeroT (f.N.toNat - 1) := by rw [hps]; exact app_nil _
    have hzs : (zeroT (f.N.toNat - 1)).size = f.N.toNat - 1 := strOf_size _ _
    rw [hpt, hzs] at hsz
    rw [hpt] at hr
    have hno : rNought F len (65535 - 1) 1 = 1 + (f.N.toNat - 1) := nought_all (f.N.toNat - 1) (65535 - 1) 1 (fun i hi => Sg.at (g := fun _ => 0#8) hr i hi) (by omega) (by omega) (fun _ h2 => by rw [show 1 + (f.N.toNat - 1) = S.size by omega]; exact hz hK (by omega))
    have hov := sh.over
    rw [hps, hfst] at hov
    have hpart : rPart F len (fr0 0) ⟨1, 0⟩ 10 = (f, ⟨S.size, 0⟩) := by
      show (({ (fr0 0) with N := ((rNought F len (65535 - 1) 1 : Nat) : Int) } : Fr), (⟨rNought F len (65535 - 1) 1, 0⟩ : At)) = _
      rw [hno, show ((1 + (f.N.toNat - 1) : Nat) : Int) = f.N by omega, ← hsz]
      exact congrArg (fun g => (g, (⟨S.size, 0⟩ : At))) hov
    rw [hps, hfst]
    unfold rParts
    rw [hpart]
    dsimp only
    rw [decide_eq_true (hfit 10 (by rw [hps]; simp)), hn]
    unfold rParts
    dsimp only
    rw [decide_eq_true hend, hn, if_pos rfl]
  · have hb := parts_back (F := F) (len := len) f sh.o ps (fr0 (firstF f)) 1 (fun q hq => ⟨(hlow q hq).1, (hlow q hq).2, hfit q hq⟩) sh.kind (sh.ord.imp id .inr) hr (by omega)
    rw [hb]
    dsimp only
    rw [sh.over, decide_eq_true hend, hn, if_pos rfl, ← hsz]
theorem get_cut {F : Nat → BitVec 8} {len : Nat} (f : Fr) (S : ByteArray) (h : putF f = some S) (hs : SgL F len 0 S) (hl : len < S.size) :
    if f.K = 0 ∧ len ≠ 0 then ∃ g : Fr, getR F len = (g, len, 0) ∧ g.A = [] else getR F len = (zeroFr, 0, 3) := by
  by_cases h0 : len = 0
  · rw [if_neg (fun hc => hc.2 h0)]
    unfold getR
    rw [if_pos h0]
  have hf0 := put_first h (by have := hs 0 (put_size h) (by omega); simpa using this)
  obtain ⟨ps, hp, e, hfit, hend, sh⟩ := put_shape f S h
  have hsz : S.size = 1 + (partsT f ps).size := by rw [e, size_append, byte_size]
  have hr : SgL F len 1 (partsT f ps) := by
    rw [e] at hs
    have := hs.right
    rw [byte_size] at this
    exact this
  have hn : ∀ p : Nat, rNeed true ⟨p, 0⟩ = ⟨p, 0⟩ := fun p => rfl
  rcases sh.low with ⟨hK, hps⟩ | ⟨hK, h1, hlow⟩
  · rw [if_pos ⟨hK, h0⟩]
    have hfst : firstF f = 0 := by unfold firstF; rw [hK]; rfl
    have hfN : 1 ≤ f.N ∧ f.N ≤ 65535 := hfit 10 (by rw [hps]; simp)
    have hpt : partsT f ps = zeroT (f.N.toNat - 1) := by rw [hps]; exact app_nil _
    have hzs : (zeroT (f.N.toNat - 1)).size = f.N.toNat - 1 := strOf_size _ _
    rw [hpt, hzs] at hsz
    rw [hpt] at hr
    have hno : rNought F len (65535 - 1) 1 = 1 + (len - 1) := nought_all (len - 1) (65535 - 1) 1 (fun i hi => by
      rw [hr i (by omega) (by omega)]
      unfold zeroT
      exact bx_of _ _ _ (by omega)) (by omega) (by omega) (fun _ h2 => absurd h2 (by omega))
    rw [show 1 + (len - 1) = len by omega] at hno
    refine ⟨{ (fr0 0) with N := (len : Int) }, ?_, rfl⟩
    have hpart : rPart F len (fr0 0) ⟨1, 0⟩ 10 = ({ (fr0 0) with N := (len : Int) }, ⟨len, 0⟩) := by
      show (({ (fr0 0) with N := ((rNought F len (65535 - 1) 1 : Nat) : Int) } : Fr), (⟨rNought F len (65535 - 1) 1, 0⟩ : At)) = _
      rw [hno]
    have hft : fitsF { (fr0 0) with N := (len : Int) } 10 := ⟨show (1 : Int) ≤ (len : Int) by omega, show (len : Int) ≤ 65535 by omega⟩
    have hen : endsF { (fr0 0) with N := (len : Int) } := .inl ⟨show (0 : Int) ≠ 6 by decide, show (0 : Int) ≠ 8 by decide⟩
    unfold getR
    rw [if_neg h0, hf0, hp]
    dsimp only
    rw [hps, hfst]
    unfold rParts
    rw [hpart]
    dsimp only
    rw [decide_eq_true hft, hn]
    unfold rParts
    dsimp only
    rw [decide_eq_true hen, hn, if_pos rfl]
  · rw [if_neg (fun hc => hK hc.1)]
    have hb := parts_cut (F := F) (len := len) f sh.o ps (fr0 (firstF f)) 1 (fun q hq => ⟨(hlow q hq).1, (hlow q hq).2, hfit q hq⟩) sh.kind (sh.ord.imp id .inr) hr (by omega) (by omega)
    unfold getR
    rw [if_neg h0, hf0, hp]
    dsimp only
    rw [need_err _ (by rw [hb]; decide), hb, if_neg (by decide)]
end Go.Proofs.YtcgbhcmgddgheabDoor
namespace Go.Proofs.YtcgbhcmgddgheabDoor
open Go Go.RowKit
set_option linter.unusedSimpArgs false
set_option linter.unusedVariables false
set_option maxRecDepth 100000
set_option maxHeartbeats 1000000 in
theorem run_append_rows {B n m : Nat} {v x : Value} {xs ys : List Value} {w : World} {t tx e : TypeId} {i : TypeInfo} {z0 : Value} (ty : TypeId) (ht : Tryd.prog.underlying t = some (.slice e)) (hi : Tryd.prog.info? e = some i) (hz : i.zero = some z0) (hzs : z0.cells.size = i.size)
    (hys : ys.length = m * i.size) (h : w.ownsRow B e i.size v n xs) (hbase : B ≤ w.heap.size) (hs : Src Tryd.prog i.size tx x m ys w) (hm63 : n + m ≤ maxLen) (hby : (n + m + (n + m) / 4 + 192) * i.bytes ≤ 281474976710656) :
    ∃ v' w', (Builtin.append_ #[t, tx] ty #[v, x]).run Tryd.prog w = .ok v' w' ∧ w'.ownsRow B e i.size v' (n + m) (xs ++ ys) ∧ GrownV w w' v v' := by
  have hxs := h.1
  have hlen : (xs ++ ys).length = (n + m) * i.size := by rw [List.length_append, hxs, hys, Nat.add_mul]
  have grown : ∀ (base : Option Addr) (sCap : Nat), sCap < n + m → (Builtin.firstCells i.size n (.slice base n sCap)).run Tryd.prog w.drew = .ok xs.toArray w.drew → v = .slice base n sCap →
      ∃ v' w', (Builtin.append_ #[t, tx] ty #[v, x]).run Tryd.prog w = .ok v' w' ∧ w'.ownsRow B e i.size v' (n + m) (xs ++ ys) ∧ GrownV w w' v v' := by
    intro base sCap hlt hold hv
    subst hv
    have hr := run_append_grow_src (P := Tryd.prog) w t tx ty e i _ ht hi hz base n sCap xs hold x m ys hs hlt (by unfold maxLen at hm63; omega) (growslice_fits_wide hlt hby)
    have hge := grownCap_ge w (n + m) sCap e
    refine ⟨_, _, hr, ⟨hlen, .inr ⟨w.heap.size, _, _, rfl, hbase, heap_alloc_new w.drew _, hge, grownCap_le_maxLen _ _ _ _ hm63, ?_, ?_⟩⟩, ⟨rfl, rfl, rfl, by simp, fun k hk _ => Below.heap_alloc w.drew _ k hk⟩, .inr ⟨w.heap.size, rfl, Nat.le_refl _⟩⟩
    · obtain ⟨gc, hgc⟩ : ∃ c, grownCap w (n + m) sCap e = c := ⟨_, rfl⟩
      rw [hgc] at hge ⊢
      simp only [Array.size_append, List.size_toArray, size_zeroCells, hzs, hxs, hys, ← Nat.add_mul]
      rw [hlen, ← Nat.add_mul, show n + m + (gc - (n + m)) = gc by omega]
    · simp only [Array.toList_append]
      exact List.take_left' hlen
  rcases h.2 with ⟨rfl, rfl⟩ | ⟨b, cap, cur, rfl, hB, hg, hnc, hcm, hcs, htk⟩
  · have hx0 : xs = [] := List.eq_nil_of_length_eq_zero (by simpa using hxs)
    subst hx0
    by_cases hm : m = 0
    · subst hm
      have hy0 : ys = [] := List.eq_nil_of_length_eq_zero (by simpa using hys)
      subst hy0
      exact ⟨_, _, run_append_nothing (P := Tryd.prog) w t tx ty e i ht hi none 0 0 (Nat.le_refl _) x hs, h, GrownV.refl _ _⟩
    · exact grown none 0 (by omega) (run_firstCells_none w.drew _ _ _ _) rfl
  · by_cases hroom : n + m ≤ cap
    · have hmul : n * i.size + m * i.size ≤ cur.size := by rw [hcs, ← Nat.add_mul]; exact Nat.mul_le_mul_right _ hroom
      have hr := run_append_room_src (P := Tryd.prog) w t tx ty e i ht hi b 0 n cap x m ys hs hroom
        (fun j hj => by rw [hys] at hj; rw [cell_of_row _ _ _ _ _ _ hg, Array.getElem?_eq_getElem (by omega)]; rfl) (fun j _ => frozen_of_row _ _ _ _ _ hg)
      simp only [Nat.zero_add] at hr
      obtain ⟨cs', h1, h2, h3⟩ := setCells_row b e ys (n * i.size) w cur hg
      have hgr := setCells_grown b (n * i.size) ys w
      refine ⟨_, _, hr, ⟨hlen, .inr ⟨b, cap, cs', rfl, hB, h1, hroom, hcm, by rw [h2, hcs], ?_⟩⟩, hgr, .inl rfl⟩
      apply List.ext_getElem?
      intro j
      by_cases hj : j < (n + m) * i.size
      · rw [List.getElem?_take, if_pos hj, Array.getElem?_toList, h3, hys]
        rw [Nat.add_mul] at hj
        by_cases hjn : n * i.size ≤ j
        · rw [if_pos ⟨hjn, hj, by omega⟩, List.getElem?_append_right (by omega), hxs]
        · rw [if_neg (by omega), List.getElem?_append_left (by omega)]
          have := congrArg (·[j]?) htk
          simp only [List.getElem?_take, show j < n * i.size by omega, if_true] at this
          rw [Array.getElem?_toList] at this
          exact this
      · rw [List.getElem?_eq_none (by rw [List.length_take]; omega), List.getElem?_eq_none (by omega)]
    · refine grown (some ⟨b, 0, none⟩) cap (by omega) ?_ rfl
      exact run_firstCells_some w.drew i.size n ⟨b, 0, none⟩ n cap xs hxs (fun j u hj => by
        rw [show ((⟨b, 0, none⟩ : Addr).add j) = ⟨b, j, none⟩ from by unfold Addr.add; split <;> simp_all]
        show w.cell? _ = _
        rw [cell_of_row _ _ _ _ _ _ hg, ← Array.getElem?_toList]
        have hjl : j < n * i.size := by rw [← hxs]; exact (List.getElem?_eq_some_iff.1 hj).1
        have := congrArg (·[j]?) htk
        simp only [List.getElem?_take, hjl, if_true] at this
        rw [this]; exact hj)
theorem step_append_rows {B n m : Nat} {v xv : Value} {xs ys : List Value} {w : World} {t tx e : TypeId} {i : TypeInfo} {z0 : Value} {o : Oper} {a : Act} {K : Act → World → Prop} {Q : Exit → Act → World → Prop} (s x : Operand)
    (ho : o.op = .call { callee := .builtin .append, args := #[s, x], argTypes := #[t, tx] }) (hsv : a.eval s = v) (hxv : a.eval x = xv)
    (ht : Tryd.prog.underlying t = some (.slice e)) (hi : Tryd.prog.info? e = some i) (hz : i.zero = some z0) (hzs : z0.cells.size = i.size)
    (hys : ys.length = m * i.size) (h : w.ownsRow B e i.size v n xs) (hbase : B ≤ w.heap.size) (hs : Src Tryd.prog i.size tx xv m ys w) (hm63 : n + m ≤ maxLen) (hby : (n + m + (n + m) / 4 + 192) * i.bytes ≤ 281474976710656)
    (hk : ∀ v' w', w'.ownsRow B e i.size v' (n + m) (xs ++ ys) → GrownV w w' v v' → K (a.put o.dst v') w') : o.wp Tryd.prog a w K Q := by
  obtain ⟨v', w', hr, h2, h3⟩ := run_append_rows o.type ht hi hz hzs hys h hbase hs hm63 hby
  unfold Oper.wp execOp
  simp only [ho, resolve, invoke, builtin, Sem.run_bind, Sem.run_pure, Result.andThen_ok, List.map_toArray, List.map_cons, List.map_nil, hsv, hxv, hr]
  exact hk v' w' h2 h3
theorem wpList_append_rows {B n m : Nat} {v xv : Value} {xs ys : List Value} {w : World} {t tx e : TypeId} {i : TypeInfo} {z0 : Value} {ops : Array Oper} {rest : List Oper} {o : Oper} {a : Act} {Q : Exit → Act → World → Prop} (hgd : o.guard = none) (s x : Operand)
    (ho : o.op = .call { callee := .builtin .append, args := #[s, x], argTypes := #[t, tx] }) (hsv : a.eval s = v) (hxv : a.eval x = xv)
    (ht : Tryd.prog.underlying t = some (.slice e)) (hi : Tryd.prog.info? e = some i) (hz : i.zero = some z0) (hzs : z0.cells.size = i.size)
    (hys : ys.length = m * i.size) (h : w.ownsRow B e i.size v n xs) (hbase : B ≤ w.heap.size) (hs : Src Tryd.prog i.size tx xv m ys w) (hm63 : n + m ≤ maxLen) (hby : (n + m + (n + m) / 4 + 192) * i.bytes ≤ 281474976710656)
    (hk : ∀ v' w', w'.ownsRow B e i.size v' (n + m) (xs ++ ys) → GrownV w w' v v' → wpList Tryd.prog ops Q rest (a.put o.dst v') w') : wpList Tryd.prog ops Q (o :: rest) a w :=
  wpList_plain hgd fun _ hK => step_append_rows s x ho hsv hxv ht hi hz hzs hys h hbase hs hm63 hby (fun v' w' h2 h3 => hK _ _ (hk v' w' h2 h3))
end Go.Proofs.YtcgbhcmgddgheabDoor
namespace Go.Proofs.YtcgbhcmgddgheabDoor
open Go Go.RowKit Go.BigFrame
set_option linter.unusedSimpArgs false
set_option linter.unusedVariables false
set_option maxRecDepth 100000
def frsC (l : List (Fr × Value)) : List Value := l.flatMap fun x => (x.1.cells x.2).toList
theorem frsC_snoc (l : List (Fr × Value)) (x : Fr × Value) : frsC (l ++ [x]) = frsC l ++ (x.1.cells x.2).toList := by unfold frsC; rw [List.flatMap_append]; simp
theorem frsC_len : ∀ l : List (Fr × Value), (frsC l).length = l.length * 9
  | [] => rfl
  | x :: l => by
    have h := frsC_len l
    unfold frsC at h ⊢
    rw [List.flatMap_cons, List.length_append, h, List.length_cons]
    simp [Fr.cells, frC]; omega
theorem frsC_at : ∀ (l : List (Fr × Value)) (i : Nat) (hi : i < l.length) (k : Nat), k < 9 → (frsC l)[i * 9 + k]? = (l[i].1.cells l[i].2)[k]?
  | x :: l, 0, _, k, hk => by
    unfold frsC
    rw [List.flatMap_cons, Nat.zero_mul, Nat.zero_add, List.getElem?_append_left (by simp [Fr.cells, frC]; omega)]
    simp
  | x :: l, i + 1, hi, k, hk => by
    have h := frsC_at l i (by simpa using hi) k hk
    unfold frsC at h ⊢
    rw [List.flatMap_cons, List.getElem?_append_right (by simp [Fr.cells, frC]; omega), show (i + 1) * 9 + k - (x.1.cells x.2).toList.length = i * 9 + k by simp [Fr.cells, frC]; omega, h]
    rfl
theorem spans_kept {w w' : World} {v : Value} {A : List (Int × Int)} (h : SpansIn w v A) (hs : w.heap.size ≤ w'.heap.size) (hk : ∀ g, v.ownBlock = some g → A ≠ [] → g < w.heap.size → w'.heap[g]? = w.heap[g]?) : SpansIn w' v A := by
  obtain ⟨a, c, rfl, hc, hat⟩ := h.at_
  refine ⟨a, c, rfl, hc, ?_⟩
  rcases hat with h0 | ⟨b, o, rfl, hl, hcell⟩
  · exact .inl h0
  · by_cases h0 : A = []
    · exact .inl h0
    have e := hk b rfl h0 hl
    exact .inr ⟨b, o, rfl, Nat.lt_of_lt_of_le hl hs, fun i hi => ⟨(World.cell?_of_block (w := w) (h := e)).trans (hcell i hi).1, (World.cell?_of_block (w := w) (h := e)).trans (hcell i hi).2⟩⟩
theorem spans_lt {w : World} {v : Value} {A : List (Int × Int)} (h : SpansIn w v A) (h0 : A ≠ []) {g : Nat} (hg : v.ownBlock = some g) : g < w.heap.size := by
  obtain ⟨a, c, rfl, hc, hat⟩ := h.at_
  rcases hat with h1 | ⟨b, o, rfl, hl, _⟩
  · exact absurd h1 h0
  · have e : b = g := Option.some.inj hg
    omega
/-- Frames in a row of one's own, each with its spans, that lie elsewhere. -/
def FrsOwn (w : World) (B : Nat) (T : TypeId) (v : Value) (l : List (Fr × Value)) : Prop :=
  w.ownsRow B T 9 v l.length (frsC l) ∧ ∀ x ∈ l, SpansIn w x.2 x.1.A ∧ ∀ g, x.2.ownBlock = some g → x.1.A ≠ [] → v.ownBlock ≠ some g
theorem FrsOwn.nil (w : World) (B : Nat) (T : TypeId) : FrsOwn w B T (.slice none 0 0) [] := ⟨World.ownsRow_nil w B T 9, fun x hx => by cases hx⟩
theorem FrsOwn.later {w w' : World} {B : Nat} {T : TypeId} {v : Value} {l : List (Fr × Value)} (h : FrsOwn w B T v l) (hb : Below w.heap.size w w') : FrsOwn w' B T v l :=
  ⟨ownsRow_keep h.1 (fun k _ hl => hb.block k hl), fun x hx => ⟨(h.2 x hx).1.later hb, (h.2 x hx).2⟩⟩
theorem frC_ones (f : Fr) (u : Value) (hu : u.oneCell' = true) : ∀ y ∈ (f.cells u).toList, y.oneCell' = true := by
  intro y hy
  simp only [Fr.cells, frC, List.mem_cons, List.not_mem_nil, or_false] at hy
  rcases hy with rfl | rfl | rfl | rfl | rfl | rfl | rfl | rfl | rfl <;> first | rfl | exact hu
/-- A frame in a row that was laid just now, as what is appended. -/
theorem src_frame {w : World} {g : Nat} {T tx e' : TypeId} (hk : Tryd.prog.underlying tx = some (.slice e')) (f : Fr) (a : Option Addr) (n c : Nat) (hg : w.heap[g]? = some (.cells (f.cells (.slice a n c)) T (0, 0))) : Src Tryd.prog 9 tx (.slice (some ⟨g, 0, none⟩) 1 1) 1 (f.cells (.slice a n c)).toList w :=
  Src.ofSlice w hk ⟨g, 0, none⟩ 1 1 _ (by simp [Fr.cells, frC]) (fun j y hj => by
    rw [show ((⟨g, 0, none⟩ : Addr).add j) = ⟨g, j, none⟩ from by unfold Addr.add; split <;> simp_all]
    rw [cell_of_row _ _ _ _ _ _ hg]
    simpa using hj) (frC_ones f _ rfl)
theorem FrsOwn.snoc {w w' : World} {B : Nat} {T : TypeId} {v v' : Value} {l : List (Fr × Value)} {f : Fr} {u : Value} (h : FrsOwn w B T v l) (hu : SpansIn w u f.A) (hne : ∀ g, u.ownBlock = some g → f.A ≠ [] → v.ownBlock ≠ some g)
    (ho : w'.ownsRow B T 9 v' (l.length + 1) (frsC l ++ (f.cells u).toList)) (hg : GrownV w w' v v') : FrsOwn w' B T v' (l ++ [(f, u)]) := by
  have stay : ∀ (y : Value) (A : List (Int × Int)), SpansIn w y A → (∀ g, y.ownBlock = some g → A ≠ [] → v.ownBlock ≠ some g) → SpansIn w' y A ∧ ∀ g, y.ownBlock = some g → A ≠ [] → v'.ownBlock ≠ some g := fun y A hy hn => by
    refine ⟨spans_kept hy hg.grown.size (fun g hg1 h0 hl => hg.block hl (hn g hg1 h0)), fun g hg1 h0 e => ?_⟩
    rcases hg.blk with e2 | ⟨k, e2, hk⟩
    · exact hn g hg1 h0 (e2.symm.trans e)
    · have := spans_lt hy h0 hg1
      rw [e] at e2; injection e2 with e2; omega
  refine ⟨by rw [List.length_append, frsC_snoc]; exact ho, fun x hx => ?_⟩
  rcases List.mem_append.1 hx with hx | hx
  · exact stay _ _ (h.2 x hx).1 (h.2 x hx).2
  · rw [List.mem_singleton] at hx
    subst hx
    exact stay _ _ hu hne
theorem FrsOwn.at {w : World} {B i : Nat} {T : TypeId} {v : Value} {l : List (Fr × Value)} (h : FrsOwn w B T v l) (hi : i < l.length) : ∃ g c, v = .slice (some ⟨g, 0, none⟩) l.length c ∧ (l.length ≤ c ∧ c ≤ maxLen) ∧ B ≤ g ∧ g < w.heap.size ∧ ∀ k, k < 9 → w.cell? ⟨g, i * 9 + k, none⟩ = (l[i].1.cells l[i].2)[k]? := by
  rcases h.1.2 with ⟨_, h0⟩ | ⟨g, c, cur, rfl, hB, hg, h1, h2, h3, h4⟩
  · omega
  · refine ⟨g, c, rfl, ⟨h1, h2⟩, hB, lt_row hg, fun k hk => ?_⟩
    rw [cell_of_row _ _ _ _ _ _ hg, ← Array.getElem?_toList, ← frsC_at l i hi k hk, ← h4, List.getElem?_take, if_pos (by omega)]
/-- The bytes from the p-th one on are those that Put makes of frames, one behind the other. -/
def Rows (F : Nat → BitVec 8) (len : Nat) : List Fr → Nat → Prop
  | [], p => p = len
  | f :: l, p => ∃ S, putF f = some S ∧ p + S.size ≤ len ∧ Sg F p S ∧ (f.K = 0 → p + S.size < len → F (p + S.size) ≠ 0#8) ∧ Rows F len l (p + S.size)
theorem Rows.le {F : Nat → BitVec 8} {len : Nat} : ∀ (l : List Fr) (p : Nat), Rows F len l p → p ≤ len
  | [], p, h => Nat.le_of_eq h
  | f :: l, p, ⟨S, _, h, _⟩ => by omega
theorem rows_get {F : Nat → BitVec 8} {len p : Nat} {f : Fr} {l : List Fr} (h : Rows F len (f :: l) p) : ∃ n, 1 ≤ n ∧ p + n ≤ len ∧ getR (fun i => F (p + i)) (len - p) = (f, n, 0) ∧ Rows F len l (p + n) := by
  obtain ⟨S, hp, hl, hs, hz, hr⟩ := h
  refine ⟨S.size, put_size hp, hl, ?_, hr⟩
  refine get_back f S hp (fun i hi => ?_) (by omega) (fun h0 h1 => ?_)
  · show F (p + (0 + i)) = _
    rw [Nat.zero_add]; exact hs i hi
  · exact hz h0 (by omega)
theorem info_fr : ∃ i0, Tryd.prog.info? 33 = some i0 ∧ i0.zero = some (.agg (frC 0 0 0 0 0 false ⟨#[]⟩ ⟨#[]⟩ (.slice none 0 0))) ∧ i0.size = 9 ∧ i0.bytes ≤ 1000 := by
  have h : (Tryd.prog.info? 33).map (fun i => (i.zero, i.size, decide (i.bytes ≤ 1000))) = some (some (.agg (frC 0 0 0 0 0 false ⟨#[]⟩ ⟨#[]⟩ (.slice none 0 0))), 9, true) := by kernel_rfl
  cases hq : Tryd.prog.info? 33 with
  | none => rw [hq] at h; cases h
  | some i =>
    rw [hq] at h
    simp only [Option.map_some, Option.some.injEq, Prod.mk.injEq, decide_eq_true_eq] at h
    exact ⟨i, rfl, h.1, h.2.1, h.2.2⟩
theorem wpList_append_fr {B : Nat} {v : Value} {l : List (Fr × Value)} {w : World} {ops : Array Oper} {rest : List Oper} {o : Oper} {a : Act} {Q : Exit → Act → World → Prop} (hgd : o.guard = none) (s x : Operand)
    (ho : o.op = .call { callee := .builtin .append, args := #[s, x], argTypes := #[42, 42] }) (hsv : a.eval s = v) (g : Nat) (hxv : a.eval x = .slice (some ⟨g, 0, none⟩) 1 1)
    (h : FrsOwn w B 33 v l) (f : Fr) (au : Option Addr) (n c : Nat) (hg : w.heap[g]? = some (.cells (f.cells (.slice au n c)) 33 (0, 0))) (hl : l.length ≤ 100000) (hbase : B ≤ w.heap.size)
    (hu : SpansIn w (.slice au n c) f.A) (hne : ∀ g, (Value.slice au n c).ownBlock = some g → f.A ≠ [] → v.ownBlock ≠ some g)
    (hk : ∀ v' w', FrsOwn w' B 33 v' (l ++ [(f, .slice au n c)]) → GrownV w w' v v' → wpList Tryd.prog ops Q rest (a.put o.dst v') w') : wpList Tryd.prog ops Q (o :: rest) a w := by
  obtain ⟨i0, hi0, hz0, hz1, hz2⟩ := info_fr
  refine wpList_append_rows (B := B) (n := l.length) (m := 1) (xs := frsC l) (ys := (f.cells (.slice au n c)).toList) (t := 42) (tx := 42) (e := 33) (i := i0) hgd s x ho hsv hxv Tryd.underlying42 hi0 hz0 (by rw [hz1]; rfl) (by rw [hz1]; rfl) (by rw [hz1]; exact h.1) hbase
    (by rw [hz1]; exact src_frame Tryd.underlying42 f au n c hg) (by unfold maxLen; omega) (by have := Nat.mul_le_mul (show l.length + 1 + (l.length + 1) / 4 + 192 ≤ 200000 by omega) hz2; omega) ?_
  intro v' w' h1 h2
  rw [hz1] at h1
  exact hk v' w' (h.snoc hu hne h1 h2) h2
end Go.Proofs.YtcgbhcmgddgheabDoor
namespace Go.Proofs.YtcgbhcmgddgheabDoor
open Go Go.RowKit Go.ChangeShapes Go.WideShapes
theorem okWide_agg {P : Program} {w : World} {base : Nat} {t : TypeId} {v : Value} (h : (match P.underlying t with | some (.struct _) | some (.array _ _) => true | _ => false) = true) (hk : Value.okWide P w .any base t v) :
    ∃ cs, v = .agg cs ∧ cs.size = P.cellsOf t := by
  unfold Value.okWide at hk
  split at hk
  · obtain ⟨cs, h1, h2, _⟩ := hk; exact ⟨cs, h1, h2⟩
  · obtain ⟨cs, h1, h2, _⟩ := hk; exact ⟨cs, h1, h2⟩
  · rename_i h1 h2
    revert h
    split
    · rename_i f hf; exact absurd hf (h1 f)
    · rename_i a b hf; exact absurd hf (h2 a b)
    · intro h; cases h
/-- The bytes of an array's reading. -/
theorem trod_bytes {H : Type} {enc : TypeId × Value → H} {P : Program} {w : World} {base : Nat} {spare : Nat → Bool} {held : Bool} {fuel : Nat} {t e : TypeId} {n : Nat} {cs : List Value} {x : DataW H × List MemPlace}
    (ht : P.underlying t = some (.array n e)) (he : P.underlying e = some (.int .u8)) (hc : P.cellsOf e = 1) (h : DataW.trod enc P w base spare held fuel t cs = some x) :
    ∃ f : Nat → BitVec 8, ∀ i, i < n → cs[i]? = some (.int .u8 (n8 (f i))) := by
  obtain ⟨xs, m, _, _, _, hl, hf⟩ := DataW.trod_array ht h
  have key : ∀ i, i < n → ∃ z : Int, cs[i]? = some (.int .u8 z) ∧ (Lit.int .u8 z).wf = true := fun i hi => by
    have h1 := hf i hi
    rw [hc, Nat.mul_one, List.getElem?_eq_getElem (by omega)] at h1
    obtain ⟨z, h2, _, h3⟩ := DataW.trod_int he h1
    refine ⟨z, ?_, h3⟩
    have h4 : ((cs.drop i).take 1)[0]? = some (.int .u8 z) := by rw [h2]; rfl
    simpa using h4
  refine ⟨fun i => match cs[i]? with | some (.int _ z) => BitVec.ofInt 8 z | _ => 0#8, fun i hi => ?_⟩
  obtain ⟨z, h1, h2⟩ := key i hi
  simp only [h1]
  rw [← n8_of_wf z h2]
theorem bits_nat_eq (n : Nat) (h : n ≤ maxLen) : n ≤ 9223372036854775807 := by unfold maxLen at h; omega
end Go.Proofs.YtcgbhcmgddgheabDoor
namespace Go.Proofs.YtcgbhcmgddgheabDoor
open Go Go.RowKit Go.ChangeShapes Go.WideShapes
set_option linter.unusedSimpArgs false
set_option linter.unusedVariables false
set_option maxRecDepth 100000
instance : Inhabited Fr := ⟨zeroFr⟩
theorem open_spans_at {H : Type} {enc : TypeId × Value → H} {w : World} {fuel : Nat} {v : Value} {y : DataW H × List MemPlace} (h : DataW.trod enc Tryd.prog w 0 (fun _ => true) true fuel 22 [v] = some y) :
    ∃ a cap A, v = .slice a A.length cap ∧ SpansIn w (.slice a A.length cap) A ∧ ∀ R : Nat, (∀ n ∈ DataW.weights Tryd.prog 22 y.1, n ≤ R) → A.length * 16 ≤ R := by
  have ce : Tryd.prog.cellsOf 54 = 2 := by kernel_rfl
  rcases Go.Deep.open_slice Tryd.underlying22 h with ⟨hcs, _⟩ | ⟨x, l, c, m, q, D, Pl, hcs, _, hl, hm, hmm, hy, hc⟩
  · obtain rfl : v = .slice none 0 0 := by simpa using hcs
    exact ⟨none, 0, [], rfl, SpansIn.none w, fun _ _ => Nat.zero_le _⟩
  · obtain rfl : v = .slice (some x) l c := by simpa using hcs
    rw [if_pos rfl] at hmm
    subst hmm
    have e : ∀ i, i < l → ∃ r : Int × Int, w.cell? (x.add (i * 2)) = some (.int .i64 r.1) ∧ w.cell? (x.add (i * 2 + 1)) = some (.int .i64 r.2) := fun i hi => by
      obtain ⟨cs', h1, h2⟩ := hc i (by omega)
      rw [ce] at h1
      obtain ⟨_, hlen, hcell⟩ := World.cells?_some h1
      obtain ⟨xs, k, hk2, hxy, _, hxl, hf2⟩ := DataW.trod_struct Tryd.underlying54 h2
      match xs, hxl, cs', hlen with
      | [y0, y1], _, [v0, v1], _ =>
        have g0 : DataW.trod enc Tryd.prog w 0 (fun _ => true) true k 3 [v0] = some y0 := hf2 0 _ rfl
        have g1 : DataW.trod enc Tryd.prog w 0 (fun _ => true) true k 3 [v1] = some y1 := hf2 1 _ rfl
        have e0 := hcell 0 (by omega)
        have e1 := hcell 1 (by omega)
        rw [Go.Deep.add_add] at e0 e1
        have ui : Tryd.prog.underlying 3 = some (.int .i64) := by kernel_rfl
        obtain ⟨p, hp, _, _⟩ := DataW.trod_int ui g0
        obtain ⟨r, hr, _, _⟩ := DataW.trod_int ui g1
        simp only [List.cons.injEq, and_true] at hp hr
        subst hp hr
        exact ⟨(p, r), by simpa using e0, by simpa using e1⟩
    obtain ⟨G, hG⟩ := Go.Deep.choose_lt e
    have hlen : ((List.range l).map G).length = l := by simp
    refine ⟨some x, m, (List.range l).map G, by rw [hlen], ⟨some x, m, rfl, ⟨by rw [hlen]; exact hl, hm⟩, ?_⟩, fun R hR => ?_⟩
    · by_cases h0 : l = 0
      · exact .inl (by subst h0; rfl)
      · obtain ⟨b, off, spot⟩ := x
        have hz := (hG 0 (by omega)).1
        have hspot : spot = none := by simpa [Addr.add] using World.cell?_spot hz
        subst hspot
        refine .inr ⟨b, off, rfl, ?_, fun i hi => ?_⟩
        · have := World.block_lt_of_cell? w _ hz
          simpa [Addr.add] using this
        · rw [hlen] at hi
          obtain ⟨h1, h2⟩ := hG i hi
          rw [Go.WideShapes.add_plain] at h1 h2
          rw [List.getElem_map, List.getElem_range, Nat.add_assoc]
          exact ⟨h1, h2⟩
    · have hy1 : y.1 = .slice ((List.range l).map D) ((List.range (m - l)).map fun j => D (l + j)) := by rw [hy]
      have h1 := hR ((((List.range l).map D).length + ((List.range (m - l)).map fun j => D (l + j)).length) * Tryd.prog.bytesOf 54) (by
        rw [hy1, DataW.weights, Tryd.underlying22]
        exact List.mem_cons_self)
      rw [show Tryd.prog.bytesOf 54 = 16 by kernel_rfl] at h1
      simp only [List.length_map, List.length_range] at h1
      rw [hlen]
      omega
theorem open_frame_at {H : Type} {enc : TypeId × Value → H} {w : World} {fuel : Nat} {cs : List Value} {y : DataW H × List MemPlace} (hs : cs.length = 9)
    (h : DataW.trod enc Tryd.prog w 0 (fun _ => true) true fuel 24 cs = some y) :
    ∃ (f : Fr) (a : Option Addr) (c : Nat), cs = (f.cells (.slice a f.A.length c)).toList ∧ SpansIn w (.slice a f.A.length c) f.A ∧ (f.D.size ≤ maxLen ∧ f.X.size ≤ maxLen ∧ -9223372036854775808 ≤ f.K ∧ f.K ≤ 9223372036854775807) ∧ ∀ R : Nat, (∀ n ∈ DataW.weights Tryd.prog 24 y.1, n ≤ R) → f.A.length * 16 ≤ R := by
  obtain ⟨xs, n, _, hd, _, hl, hx⟩ := DataW.trod_struct Tryd.underlying24 h
  match xs, hl, cs, hs with
  | [y0, y1, y2, y3, y4, y5, y6, y7, y8], _, [v0, v1, v2, v3, v4, v5, v6, v7, v8], _ =>
    have g0 : DataW.trod enc Tryd.prog w 0 (fun _ => true) true n 3 [v0] = some y0 := hx 0 _ rfl
    have g1 : DataW.trod enc Tryd.prog w 0 (fun _ => true) true n 3 [v1] = some y1 := hx 1 _ rfl
    have g2 : DataW.trod enc Tryd.prog w 0 (fun _ => true) true n 3 [v2] = some y2 := hx 2 _ rfl
    have g3 : DataW.trod enc Tryd.prog w 0 (fun _ => true) true n 3 [v3] = some y3 := hx 3 _ rfl
    have g4 : DataW.trod enc Tryd.prog w 0 (fun _ => true) true n 3 [v4] = some y4 := hx 4 _ rfl
    have g5 : DataW.trod enc Tryd.prog w 0 (fun _ => true) true n 4 [v5] = some y5 := hx 5 _ rfl
    have g6 : DataW.trod enc Tryd.prog w 0 (fun _ => true) true n 9 [v6] = some y6 := hx 6 _ rfl
    have g7 : DataW.trod enc Tryd.prog w 0 (fun _ => true) true n 9 [v7] = some y7 := hx 7 _ rfl
    have g8 : DataW.trod enc Tryd.prog w 0 (fun _ => true) true n 22 [v8] = some y8 := hx 8 _ rfl
    have ui : Tryd.prog.underlying 3 = some (.int .i64) := by kernel_rfl
    have us : Tryd.prog.underlying 9 = some .string := by kernel_rfl
    obtain ⟨K, e0, _, hK⟩ := DataW.trod_int ui g0
    obtain ⟨S, e1, _, _⟩ := DataW.trod_int ui g1
    obtain ⟨O, e2, _, _⟩ := DataW.trod_int ui g2
    obtain ⟨N, e3, _, _⟩ := DataW.trod_int ui g3
    obtain ⟨C, e4, _, _⟩ := DataW.trod_int ui g4
    obtain ⟨F, e5, _⟩ := DataW.trod_bool (show Tryd.prog.underlying 4 = some .bool from by kernel_rfl) g5
    obtain ⟨D, e6, _, hD⟩ := DataW.trod_string us g6
    obtain ⟨X, e7, _, hX⟩ := DataW.trod_string us g7
    obtain ⟨a, c, A, rfl, hA, hR⟩ := open_spans_at g8
    simp only [List.cons.injEq, and_true] at e0 e1 e2 e3 e4 e5 e6 e7
    subst e0 e1 e2 e3 e4 e5 e6 e7
    refine ⟨⟨K, S, O, N, C, F, D, X, A⟩, a, c, rfl, hA, ⟨hD, hX, ?_⟩, fun R hw => hR R (fun m hm => hw m ?_)⟩
    · have hw := hK
      simp [Lit.wf, IntKind.min, IntKind.max, IntKind.signed, IntKind.bits] at hw
      exact hw
    · have hd1 : y.1 = .agg [y0.1, y1.1, y2.1, y3.1, y4.1, y5.1, y6.1, y7.1, y8.1] := by
        have := congrArg Prod.fst hd
        simpa using this
      rw [hd1, DataW.weights, Tryd.underlying24]
      exact DataW.weights_mem_each (j := 8) (t := 22) (d := y8.1) rfl rfl m hm
structure FrsIn (w : World) (a : Option Addr) (n : Nat) (R : Nat → Fr) (U : Nat → Option Addr × Nat) : Prop where
  le : n ≤ maxLen
  cells : n = 0 ∨ ∃ b off, a = some ⟨b, off, none⟩ ∧ b < w.heap.size ∧ ∀ i, i < n → ∀ q, q < 9 → w.cell? ⟨b, off + i * 9 + q, none⟩ = ((R i).cells (.slice (U i).1 (R i).A.length (U i).2))[q]?
  each : ∀ i, i < n → SpansIn w (.slice (U i).1 (R i).A.length (U i).2) (R i).A ∧ (R i).A.length ≤ 10000000000000 ∧ (R i).D.size ≤ maxLen ∧ (R i).X.size ≤ maxLen ∧ -9223372036854775808 ≤ (R i).K ∧ (R i).K ≤ 9223372036854775807
theorem FrsIn.later {w w' : World} {a : Option Addr} {n : Nat} {R : Nat → Fr} {U : Nat → Option Addr × Nat} (h : FrsIn w a n R U) (hb : Below w.heap.size w w') : FrsIn w' a n R U := by
  refine ⟨h.le, ?_, fun i hi => ⟨(h.each i hi).1.later hb, (h.each i hi).2⟩⟩
  rcases h.cells with h0 | ⟨b, o, e, hbb, hc⟩
  · exact .inl h0
  · exact .inr ⟨b, o, e, Nat.lt_of_lt_of_le hbb hb.size, fun i hi q hq => by rw [hb.cell (p := ⟨b, o + i * 9 + q, none⟩) hbb]; exact hc i hi q hq⟩
theorem weights_mem_all {H : Type} {P : Program} {e : TypeId} : ∀ {ds : List (DataW H)} {d : DataW H}, d ∈ ds → ∀ n ∈ d.weights P e, n ∈ DataW.weightsAll P e ds
  | x :: r, d, hd, n, hn => by
    rw [DataW.weightsAll, List.mem_append]
    rcases List.mem_cons.1 hd with rfl | hd
    · exact .inl hn
    · exact .inr (weights_mem_all hd n hn)
theorem open_frames {H : Type} {enc : TypeId × Value → H} {w : World} {base : Nat} {v : Value} {d : DataW H} {p : List MemPlace} (hk : Value.okWide Tryd.prog w .any base 38 v)
    (h : DataW.Trod enc Tryd.prog w 0 (fun _ => true) true 38 v d p) (hz : ∀ n ∈ DataW.weights Tryd.prog 38 d, n ≤ reachBytes) : ∃ a n c R U, v = .slice a n c ∧ FrsIn w a n R U ∧ n ≤ c ∧ c ≤ maxLen := by
  obtain ⟨a0, len, cap, rfl⟩ := okWide_slice Tryd.underlying38 hk
  obtain ⟨fuel, hf⟩ := h
  have ce : Tryd.prog.cellsOf 24 = 9 := by kernel_rfl
  rcases Go.Deep.open_slice Tryd.underlying38 hf with ⟨hcs, _⟩ | ⟨x, l, c, m, q, D, Pl, hcs, _, hl, hm, hmm, hy, hc⟩
  · have hcs : [Value.slice a0 len cap] = [Value.slice none 0 0] := hcs
    simp only [List.cons.injEq, Value.slice.injEq, and_true] at hcs
    obtain ⟨rfl, rfl, rfl⟩ := hcs
    exact ⟨_, _, _, fun _ => zeroFr, fun _ => (none, 0), rfl, ⟨Nat.zero_le _, .inl rfl, fun i hi => by omega⟩, Nat.le_refl _, Nat.zero_le _⟩
  · have hcs : [Value.slice a0 len cap] = [Value.slice (some x) l c] := hcs
    simp only [List.cons.injEq, Value.slice.injEq, and_true] at hcs
    obtain ⟨rfl, rfl, rfl⟩ := hcs
    rw [if_pos rfl] at hmm
    subst hmm
    have hd : d = .slice ((List.range len).map D) ((List.range (m - len)).map fun j => D (len + j)) := congrArg Prod.fst hy
    have e : ∀ i, i < len → ∃ r : Fr × (Option Addr × Nat), (∀ q, q < 9 → w.cell? (x.add (i * 9 + q)) = (r.1.cells (.slice r.2.1 r.1.A.length r.2.2))[q]?) ∧ SpansIn w (.slice r.2.1 r.1.A.length r.2.2) r.1.A ∧ r.1.A.length ≤ 10000000000000 ∧ r.1.D.size ≤ maxLen ∧ r.1.X.size ≤ maxLen ∧ -9223372036854775808 ≤ r.1.K ∧ r.1.K ≤ 9223372036854775807 := fun i hi => by
      obtain ⟨cs', h1, h2⟩ := hc i (by omega)
      rw [ce] at h1
      obtain ⟨_, hlen, hcell⟩ := World.cells?_some h1
      obtain ⟨r, a, c, rfl, hI, ⟨hD, hX, hK⟩, hR⟩ := open_frame_at hlen h2
      refine ⟨(r, a, c), fun q hq => ?_, hI, ?_, hD, hX, hK⟩
      · have := hcell q (by omega)
        rw [Go.Deep.add_add] at this
        rw [this]
        simp
      · have hb := hR reachBytes (fun n hn => hz n (by
          rw [hd, DataW.weights, Tryd.underlying38]
          refine List.mem_cons_of_mem _ (List.mem_append_left _ (weights_mem_all ?_ n hn))
          exact List.mem_map.2 ⟨i, List.mem_range.2 hi, rfl⟩))
        unfold reachBytes at hb
        show r.A.length ≤ _
        omega
    obtain ⟨G, hG⟩ := Go.Deep.choose_lt e
    refine ⟨_, _, _, fun i => (G i).1, fun i => (G i).2, rfl, ⟨Nat.le_trans hl hm, ?_, fun i hi => (hG i hi).2⟩, hl, hm⟩
    by_cases h0 : len = 0
    · exact .inl h0
    · obtain ⟨b, off, spot⟩ := x
      have hz0 := (hG 0 (by omega)).1 0 (by omega)
      have hspot : spot = none := by simpa [Addr.add] using World.cell?_spot hz0
      subst hspot
      refine .inr ⟨b, off, rfl, ?_, fun i hi q hq => ?_⟩
      · have := World.block_lt_of_cell? w _ hz0
        simpa [Addr.add] using this
      · have h1 := (hG i hi).1 q hq
        rw [Go.WideShapes.add_plain] at h1
        rw [Nat.add_assoc]
        exact h1
end Go.Proofs.YtcgbhcmgddgheabDoor
