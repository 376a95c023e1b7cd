/-
  FRAMES, SEVENTH PART: numbers behind bytes.
-/
import Derived.Test.YtcgbhcmgddgheabDoorFrF
import Derived.Test.YtcgbhcmgddgheabDoorOpenB
namespace Go.Proofs.YtcgbhcmgddgheabDoor
open Go Go.RowKit Go.BigFrame
set_option linter.unusedSimpArgs false
set_option linter.unusedVariables false
set_option maxRecDepth 100000
theorem joined (f g : Nat → BitVec 8) (a b : Nat) : strOf f a ++ strOf g b = strOf (joinb f a g) (a + b) := by
  apply ByteArray.ext
  rw [ByteArray.data_append]
  apply Array.ext'
  rw [Array.toList_append]
  show strL f a ++ strL g b = strL (joinb f a g) (a + b)
  apply List.ext_getElem?
  intro i
  by_cases hi : i < a
  · rw [List.getElem?_append_left (by rw [strL_length]; exact hi)]
    simp [strL, hi, show i < a + b by omega, joinb]
  · rw [List.getElem?_append_right (by rw [strL_length]; omega), strL_length]
    by_cases hib : i < a + b
    · simp [strL, show i - a < b by omega, hib, joinb, hi]
    · rw [List.getElem?_eq_none (by rw [strL_length]; omega), List.getElem?_eq_none (by rw [strL_length]; omega)]
/-- Bytes of one's own, from B on, that are a text. -/
def OwnS (B : Nat) (v : Value) (S : ByteArray) (w : World) : Prop := ∃ n f, Own B v n f w ∧ S = strOf f n
theorem OwnS.later {B : Nat} {v : Value} {S : ByteArray} {w w' : World} (h : OwnS B v S w) (hb : Below w.heap.size w w') : OwnS B v S w' := by
  obtain ⟨n, f, ho, e⟩ := h
  exact ⟨n, f, ho.later hb, e⟩
/-- A number's bytes, as few as can be. -/
def numT (x : Int) : ByteArray := strOf (vbyte (BitVec.ofInt 64 x) (least (BitVec.ofInt 64 x))) (2 ^ least (BitVec.ofInt 64 x))
def numsT : List Int → ByteArray
  | [] => ⟨#[]⟩
  | x :: l => numT x ++ numsT l
theorem app_nil (S : ByteArray) : S ++ (⟨#[]⟩ : ByteArray) = S := by
  apply ByteArray.ext; rw [ByteArray.data_append]; simp
theorem nil_app (S : ByteArray) : (⟨#[]⟩ : ByteArray) ++ S = S := by
  apply ByteArray.ext; rw [ByteArray.data_append]; simp
theorem numsT_append : ∀ (a b : List Int), numsT (a ++ b) = numsT a ++ numsT b
  | [], b => (nil_app _).symm
  | x :: a, b => by rw [List.cons_append, numsT, numsT, numsT_append a b, ByteArray.append_assoc]
theorem numsT_one (x : Int) : numsT [x] = numT x := app_nil _
theorem numT_size (x : Int) : 1 ≤ (numT x).size ∧ (numT x).size ≤ 8 := by
  unfold numT
  rw [strOf_size]
  have := least_lt (BitVec.ofInt 64 x)
  exact ⟨Nat.two_pow_pos _, Nat.le_trans (Nat.pow_le_pow_right (by decide) (show least (BitVec.ofInt 64 x) ≤ 3 by omega)) (by decide)⟩
theorem numsT_size : ∀ l : List Int, (numsT l).size ≤ 8 * l.length
  | [] => by decide
  | x :: l => by
    have h1 := (numT_size x).2
    have h2 := numsT_size l
    show (numT x ++ numsT l).size ≤ _
    rw [ByteArray.size_append, List.length_cons]
    omega
theorem num_fits (x : Int) (h0 : 0 ≤ x) (h1 : x ≤ MX) : (BitVec.ofInt 64 x).toNat < 2 ^ 62 := by
  rw [BitVec.toNat_ofInt]; unfold MX at h1; omega
theorem GrownV.of_below {w w' : World} (v : Value) (hb : Below w.heap.size w w') : GrownV w w' v v := ⟨⟨hb.os, hb.tape, hb.output, hb.size, fun k hk _ => hb.block k hk⟩, .inl rfl⟩
theorem OwnS.belowV {B : Nat} {v v' : Value} {S : ByteArray} {w w' : World} (h : OwnS B v S w) (g : GrownV w w' v v') : Below B w w' := by
  obtain ⟨n, f, ho, _⟩ := h
  exact g.below ho
/-- The row that a list of numbers is laid in. -/
def intRow (l : List Int) : Array Value := (l.map (fun x => Value.int .i64 x)).toArray
set_option maxHeartbeats 8000000 in
theorem appendNumbers_any {B b : Nat} {v : Value} {S : ByteArray} (l : List Int) (hl : ∀ (i : Nat) (hi : i < l.length), 0 ≤ l[i] ∧ l[i] ≤ MX) (w : World) (hb : w.heap[b]? = some (.cells (intRow l) 3 (0, 0))) (hne : v.ownBlock ≠ some b) (h : OwnS B v S w) (hS : S.size + 8 * l.length ≤ 100000000000) (tab : ∀ w', Below B w w' → Tab w') :
    Calls Tryd.prog 33 #[v, .slice (some ⟨b, 0, none⟩) l.length l.length] w fun e w' => ∃ v', e = .returned v' ∧ OwnS B v' (S ++ numsT l) w' ∧ GrownV w w' v v' := by
  have HB := Lib.hid hb
  have HNE := Lib.hid hne
  have HL := Lib.hid hl
  have OW := Lib.hid h
  have TB := Lib.hid tab
  have T0 := Lib.hid (show S ++ numsT (l.take 0) = S from app_nil S)
  have TK := Lib.hid (fun (i : Nat) (hi : i < l.length) => (show S ++ numsT (l.take i) ++ numT l[i] = S ++ numsT (l.take (i + 1)) by rw [List.take_succ_eq_append_getElem hi, numsT_append, numsT_one, ByteArray.append_assoc]))
  have TE := Lib.hid (show S ++ numsT (l.take l.length) = S ++ numsT l by rw [List.take_length])
  have TS := Lib.hid (fun (i : Nat) => (show (S ++ numsT (l.take i)).size ≤ 100000000000 by
    have h1 := numsT_size (l.take i)
    rw [List.length_take] at h1
    rw [ByteArray.size_append]
    omega))
  have CL := Lib.hid (fun (i : Nat) (hi : i < l.length) (w' : World) (he : w'.heap[b]? = w.heap[b]?) => (show w'.cell? ⟨b, i, none⟩ = some (.int .i64 l[i]) by
    rw [cell_of_row _ _ _ _ _ _ (he.trans hb)]
    simp [intRow, hi]))
  obtain ⟨n, hn⟩ : ∃ n, l.length = n := ⟨_, rfl⟩
  have hn63 : n ≤ 9223372036854775807 := by omega
  have HN := Lib.hid hn
  rw [hn]
  clear hb hne hl h tab hS hn
  go_enter Tryd.func33, Tryd.ntmps33
  go_upto_region 2 with (fail)
  go_loopw [0, 11] (fun s0 s11 wr => ∃ (i : Nat), i ≤ n ∧ s11 = .int .i64 (i : Int) ∧ OwnS B s0 (S ++ numsT (l.take i)) wr ∧ GrownV w wr v s0) (fun _ s11 _ => n - (intOf s11).toNat)
  case atStart => exact ⟨0, by omega, rfl, by rw [T0.out]; exact OW.out, GrownV.refl _ _⟩
  case round =>
    obtain ⟨i, hi, rfl, ho, hg⟩ := hrel
    have OO := Lib.hid ho
    have GG := Lib.hid hg
    clear ho hg
    by_cases hin : i < n
    · have hinI : (i : Int) < (n : Int) := by omega
      have hil : i < l.length := by rw [HN.out]; exact hin
      obtain ⟨h0, h1⟩ := HL.out i hil
      have cx := CL.out i hil wr (GG.out.block (lt_row HB.out) HNE.out)
      have tk := TK.out i hil
      obtain ⟨x, hx⟩ : ∃ x, l[i] = x := ⟨_, rfl⟩
      rw [hx] at h0 h1 cx tk
      have TKI := Lib.hid tk
      have ts := TS.out i
      have TBr : Tab wr := TB.out wr (OW.out.belowV GG.out)
      have PK := Lib.hid (put_int_ok x (BitVec.ofInt 64 x) (wrap_n64 x) (num_fits x h0 h1) wr TBr)
      clear tk hx h0 h1 TBr
      go_upto_region 4 with (fail)
      go_wp2_with fail
      with_reducible refine PK.out.mono ?_
      rintro e w3 ⟨r, rfl, hr⟩
      have G3 := Lib.hid (GG.out.trans (GrownV.of_below _ hr.below))
      obtain ⟨n0, f0, ho3, hS0⟩ := OO.out.later hr.below
      rw [hS0, strOf_size] at ts
      have O3 := Lib.hid ho3
      have HS0 := Lib.hid hS0
      have hk8 : 2 ^ least (BitVec.ofInt 64 x) ≤ 8 := by have h1 := (numT_size x).2; unfold numT at h1; rw [strOf_size] at h1; exact h1
      have SR := Lib.hid (src_in (hr.bytesIn (by unfold maxLen; omega)) (2 ^ least (BitVec.ofInt 64 x)))
      have NT := Lib.hid (show numT x = strOf (vbyte (BitVec.ofInt 64 x) (least (BitVec.ofInt 64 x))) (2 ^ least (BitVec.ofInt 64 x)) from rfl)
      generalize 2 ^ least (BitVec.ofInt 64 x) = kk at *
      generalize vbyte (BitVec.ofInt 64 x) (least (BitVec.ofInt 64 x)) = ff at *
      clear hr ho3 hS0 PK
      go_upto_region 9 with (first
        | (at_builtin; refine wpList_append_bytes (o := ⟨some 22, _, _, _, _, _⟩) rfl _ _ 28 rfl rfl rfl O3.out SR.out (by omega) ?_; intro v4 w4 ho4 hg4; have O4 := Lib.hid ho4; have G4 := Lib.hid (G3.out.trans hg4); clear ho4 hg4)
        | fail)
      case roundEnd =>
        exact ⟨⟨i + 1, by omega, by first | rfl | (congr 1), ⟨_, _, O4.out, by rw [← TKI.out, HS0.out, NT.out, joined]⟩, G4.out⟩, by simp only [intOf]; omega⟩
    · obtain rfl : i = n := by omega
      have hin' : ¬ (i : Int) < (i : Int) := by omega
      have FIN := Lib.hid (show OwnS B u0 (S ++ numsT l) wr by rw [← TE.out, HN.out]; exact OO.out)
      go_wp2_with fail
      go_ret
      exact ⟨_, rfl, FIN.out, GG.out⟩
end Go.Proofs.YtcgbhcmgddgheabDoor
