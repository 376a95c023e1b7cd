/-
  THE CALLS OF PACKAGE packet: what is put behind bytes, as texts; a first byte; the document's lowest bytes.
-/
import Derived.Test.YtcgbhcmgddgheaaDoorPackE
import Derived.Test.YtcgbhcmgddgheaaDoorOpenB
import Derived.Test.YtcgbhcmgddgheaaDoorAny
namespace Go.Proofs.YtcgbhcmgddgheaaDoor
open Go Go.RowKit Go.BigFrame
set_option linter.unusedSimpArgs false
set_option linter.unusedVariables false
set_option maxRecDepth 100000
theorem joined (f g : Nat → BitVec 8) (a b : Nat) : strOf f a ++ strOf g b = strOf (joinb f a g) (a + b) := by
  apply ByteArray.ext
  rw [ByteArray.data_append]
  apply Array.ext'
  rw [Array.toList_append]
  show strL f a ++ strL g b = strL (joinb f a g) (a + b)
  apply List.ext_getElem?
  intro i
  by_cases hi : i < a
  · rw [List.getElem?_append_left (by rw [strL_length]; exact hi)]
    simp [strL, hi, show i < a + b by omega, joinb]
  · rw [List.getElem?_append_right (by rw [strL_length]; omega), strL_length]
    by_cases hib : i < a + b
    · simp [strL, show i - a < b by omega, hib, joinb, hi]
    · rw [List.getElem?_eq_none (by rw [strL_length]; omega), List.getElem?_eq_none (by rw [strL_length]; omega)]
/-- Bytes of one's own, from B on, that are a text. -/
def OwnS (B : Nat) (v : Value) (S : ByteArray) (w : World) : Prop := ∃ n f, Own B v n f w ∧ S = strOf f n
theorem OwnS.later {B : Nat} {v : Value} {S : ByteArray} {w w' : World} (h : OwnS B v S w) (hb : Below w.heap.size w w') : OwnS B v S w' := by
  obtain ⟨n, f, ho, e⟩ := h
  exact ⟨n, f, ho.later hb, e⟩
/-- The lowest bytes of a number, as many as are asked, as a text. -/
def lowS (N : Int) (size : Nat) : ByteArray := strOf (numB N size) size
theorem lowS_size (N : Int) (size : Nat) : (lowS N size).size = size := strOf_size _ _
theorem lowS_one (x : BitVec 8) (N : Int) (h : BitVec.ofInt 8 N = x) : lowS N 1 = strOf (fun _ => x) 1 := by
  unfold lowS strOf strL
  simp [numB, h]
theorem appendNumber_S {B : Nat} {v : Value} {S : ByteArray} (N : Int) (size : Nat) (w : World) (h : OwnS B v S w) (hs : size ≤ 8) (hn : S.size ≤ 100000000000000) :
    Calls Tryd.prog 61 #[v, .int .i64 N, .int .i64 (size : Int)] w fun e w' => ∃ v', e = .returned v' ∧ OwnS B v' (S ++ lowS N size) w' ∧ Below B w w' := by
  obtain ⟨n, f, ho, rfl⟩ := h
  rw [strOf_size] at hn
  refine (appendNumber_any N size w ho hs hn).mono ?_
  rintro e w' ⟨v', rfl, ho', hg⟩
  exact ⟨v', rfl, ⟨_, _, ho', by unfold lowS; rw [joined]⟩, hg.below ho⟩
set_option maxHeartbeats 4000000 in
theorem appendName_S {B : Nat} {v : Value} {S : ByteArray} (D : ByteArray) (w : World) (h : OwnS B v S w) (hd : D.size ≤ 255) (hn : S.size ≤ 1000000000000) :
    Calls Tryd.prog 62 #[v, .string D] w fun e w' => ∃ v', e = .returned v' ∧ OwnS B v' (S ++ (lowS (D.size : Int) 1 ++ D)) w' ∧ Below B w w' := by
  obtain ⟨n, f, ho, rfl⟩ := h
  rw [strOf_size] at hn
  obtain ⟨d, hD⟩ := str_as D
  obtain ⟨m, hm⟩ : ∃ m, D.size = m := ⟨_, rfl⟩
  rw [hm] at hD hd ⊢
  have O := Lib.hid ho
  have LO := Lib.hid (lowS_one (BitVec.ofNat 8 m) (m : Int) (by simp))
  have HD := Lib.hid hD
  have SR := Lib.hid (fun w' => src_str d m w')
  rw [← hD] at SR
  clear ho hD
  have hb8 : (m : Int) ≤ 255 := by omega
  have e2 : n8 (BitVec.ofNat 8 m) = (m : Int) := by rw [n8_nat, BitVec.toNat_ofNat]; omega
  have s1 := src_one_new w (BitVec.ofNat 8 m)
  rw [e2] at s1
  have S1 := Lib.hid s1
  clear e2 s1
  go_enter Tryd.func62, Tryd.ntmps62
  go_wp2_with (first
    | (refine wpList_append_bytes (o := ⟨some 10, _, _, _, _, _⟩) rfl _ _ 26 rfl rfl rfl (O.out.alloc _) S1.out (by omega) ?_; intro v1 w1 ho1 hg1)
    | (refine wpList_append_bytes (o := ⟨some 12, _, _, _, _, _⟩) rfl _ _ 9 rfl rfl rfl ho1 (SR.out _) (by omega) ?_; intro v2 w2 ho2 hg2)
    | fail)
  go_ret
  exact ⟨v2, rfl, ⟨_, _, ho2, by rw [LO.out, HD.out, ← ByteArray.append_assoc, joined, joined]⟩, (((Below.refl B w).alloc O.out.base _).trans (hg1.below (O.out.alloc _))).trans (hg2.below ho1)⟩
theorem low_succ (N : Int) (i : Nat) : strOf (fun _ => BitVec.ofInt 8 (N / 2 ^ (8 * i))) 1 ++ lowS N i = lowS N (i + 1) := by
  unfold lowS
  rw [joined, Nat.add_comm 1 i]
  unfold strOf strL
  congr 2
  refine List.map_congr_left (fun j hj => ?_)
  have hj2 := List.mem_range.1 hj
  by_cases h0 : j < 1
  · obtain rfl : j = 0 := by omega
    simp [joinb, numB]
  · simp only [joinb, h0, if_false, numB]
    rw [show i + 1 - 1 - j = i - 1 - (j - 1) by omega]
theorem low_none (N : Int) : lowS N 0 = ⟨#[]⟩ := rfl
set_option maxHeartbeats 4000000 in
theorem low_any (N : Int) (size : Nat) (w : World) (hs : size ≤ 8) :
    Calls Tryd.prog 55 #[.int .i64 N, .int .i64 (size : Int)] w fun e w' => e = .returned (.string (lowS N size)) ∧ Below w.heap.size w w' := by
  obtain ⟨OUT, hO⟩ : ∃ O, lowS N size = O := ⟨_, rfl⟩
  rw [hO]
  have HO := Lib.hid hO
  clear hO
  go_enter Tryd.func55, Tryd.ntmps55
  go_wp2_with fail
  go_loopw [0, 5, 6] (fun v0 v5 v6 wr => ∃ i : Nat, i ≤ size ∧ v6 = .int .i64 (i : Int) ∧ v0 = .int .i64 (N / 2 ^ (8 * i)) ∧ v5 = .string (lowS N i) ∧ Below w.heap.size w wr) (fun _ _ v6 _ => size - (intOf v6).toNat)
  case atStart => exact ⟨0, by omega, rfl, by simp, rfl, Below.refl _ _⟩
  case round =>
    obtain ⟨i, hi, rfl, rfl, rfl, hb⟩ := hrel
    have HB := Lib.hid hb
    clear hb
    by_cases hlt : i < size
    · have hI : (i : Int) < (size : Int) := by omega
      have e1 := numB_at N (8 * i)
      have sc := Lib.hid (low_succ N i)
      have nx : Hid (N / 2 ^ (8 * i) / 256 = N / 2 ^ (8 * (i + 1))) := Lib.hid (by
        rw [Int.ediv_ediv_of_nonneg (Int.pow_nonneg (by decide)), show 8 * (i + 1) = 8 * i + 8 by omega, Int.pow_add]
        rfl)
      have z1 := lowS_size N i
      have q1 : ¬ 9223372036854775807 < 1 + i := by omega
      generalize hM : N / 2 ^ (8 * i) = M at *
      generalize hX : BitVec.ofInt 8 M = X at *
      have cv := conv_str (fun _ => X) wr.heap.size 0 1 1 (wr.alloc (.cells #[.int .u8 (n8 X)] 5)) (fun j hj => by
        rw [cell_of_row _ _ _ _ _ _ (heap_alloc_last wr _)]
        obtain rfl : j = 0 := by omega
        rfl)
      have z2 := strOf_size (fun _ => X) 1
      generalize lowS N i = SI at *
      generalize strOf (fun _ => X) 1 = S1 at *
      clear hM hX
      go_wp2_with fail
      go_roundw
      case rel => exact ⟨i + 1, by omega, by go_num, by rw [← nx.out], by rw [sc.out], HB.out.alloc HB.out.size _⟩
      case measure => simp [intOf]; omega
    · obtain rfl : i = size := by omega
      go_wp2_with fail
      go_ret
      exact ⟨congrArg (fun s => Ending.returned (Value.string s)) HO.out, HB.out⟩
/-- The first byte of a header that is in form, as a number. -/
def firstN (k z : Int) (ph : Bool) : Int := if k = 5 then 192 else if k = 3 then 240 else if k = 4 then (if ph then 67 + z else 63 + z) else 191 + 16 * k + z
set_option maxHeartbeats 8000000 in
theorem firstByte_any (k v l N z : Int) (D S T : ByteArray) (ph : Bool) (L : Value) (w : World) (hk : k = 0 ∨ k = 1 ∨ k = 2 ∨ k = 3 ∨ k = 4 ∨ k = 5) (hz : k = 3 ∨ k = 5 ∨ z = 1 ∨ z = 2 ∨ z = 3 ∨ z = 4) :
    Calls Tryd.prog 60 #[.agg (hdC k v D S T l N z ph L)] w fun e w' => e = .returned (.int .u8 (n8 (BitVec.ofInt 8 (firstN k z ph)))) ∧ Below w.heap.size w w' := by
  rcases hk with rfl | rfl | rfl | rfl | rfl | rfl
  · rcases hz with h | h | rfl | rfl | rfl | rfl
    · omega
    · omega
    · have FB : n8 (BitVec.ofInt 8 (firstN 0 1 ph)) = 192 := by rw [n8_nat]; rfl
      rw [FB]
      clear FB
      unfold hdC
      go_enter Tryd.func60, Tryd.ntmps60
      go_wp2_with fail
      go_ret
      exact ⟨rfl, (Below.refl _ _).alloc (Nat.le_refl _) _⟩
    · have FB : n8 (BitVec.ofInt 8 (firstN 0 2 ph)) = 193 := by rw [n8_nat]; rfl
      rw [FB]
      clear FB
      unfold hdC
      go_enter Tryd.func60, Tryd.ntmps60
      go_wp2_with fail
      go_ret
      exact ⟨rfl, (Below.refl _ _).alloc (Nat.le_refl _) _⟩
    · have FB : n8 (BitVec.ofInt 8 (firstN 0 3 ph)) = 194 := by rw [n8_nat]; rfl
      rw [FB]
      clear FB
      unfold hdC
      go_enter Tryd.func60, Tryd.ntmps60
      go_wp2_with fail
      go_ret
      exact ⟨rfl, (Below.refl _ _).alloc (Nat.le_refl _) _⟩
    · have FB : n8 (BitVec.ofInt 8 (firstN 0 4 ph)) = 195 := by rw [n8_nat]; rfl
      rw [FB]
      clear FB
      unfold hdC
      go_enter Tryd.func60, Tryd.ntmps60
      go_wp2_with fail
      go_ret
      exact ⟨rfl, (Below.refl _ _).alloc (Nat.le_refl _) _⟩
  · rcases hz with h | h | rfl | rfl | rfl | rfl
    · omega
    · omega
    · have FB : n8 (BitVec.ofInt 8 (firstN 1 1 ph)) = 208 := by rw [n8_nat]; rfl
      rw [FB]
      clear FB
      unfold hdC
      go_enter Tryd.func60, Tryd.ntmps60
      go_wp2_with fail
      go_ret
      exact ⟨rfl, (Below.refl _ _).alloc (Nat.le_refl _) _⟩
    · have FB : n8 (BitVec.ofInt 8 (firstN 1 2 ph)) = 209 := by rw [n8_nat]; rfl
      rw [FB]
      clear FB
      unfold hdC
      go_enter Tryd.func60, Tryd.ntmps60
      go_wp2_with fail
      go_ret
      exact ⟨rfl, (Below.refl _ _).alloc (Nat.le_refl _) _⟩
    · have FB : n8 (BitVec.ofInt 8 (firstN 1 3 ph)) = 210 := by rw [n8_nat]; rfl
      rw [FB]
      clear FB
      unfold hdC
      go_enter Tryd.func60, Tryd.ntmps60
      go_wp2_with fail
      go_ret
      exact ⟨rfl, (Below.refl _ _).alloc (Nat.le_refl _) _⟩
    · have FB : n8 (BitVec.ofInt 8 (firstN 1 4 ph)) = 211 := by rw [n8_nat]; rfl
      rw [FB]
      clear FB
      unfold hdC
      go_enter Tryd.func60, Tryd.ntmps60
      go_wp2_with fail
      go_ret
      exact ⟨rfl, (Below.refl _ _).alloc (Nat.le_refl _) _⟩
  · rcases hz with h | h | rfl | rfl | rfl | rfl
    · omega
    · omega
    · have FB : n8 (BitVec.ofInt 8 (firstN 2 1 ph)) = 224 := by rw [n8_nat]; rfl
      rw [FB]
      clear FB
      unfold hdC
      go_enter Tryd.func60, Tryd.ntmps60
      go_wp2_with fail
      go_ret
      exact ⟨rfl, (Below.refl _ _).alloc (Nat.le_refl _) _⟩
    · have FB : n8 (BitVec.ofInt 8 (firstN 2 2 ph)) = 225 := by rw [n8_nat]; rfl
      rw [FB]
      clear FB
      unfold hdC
      go_enter Tryd.func60, Tryd.ntmps60
      go_wp2_with fail
      go_ret
      exact ⟨rfl, (Below.refl _ _).alloc (Nat.le_refl _) _⟩
    · have FB : n8 (BitVec.ofInt 8 (firstN 2 3 ph)) = 226 := by rw [n8_nat]; rfl
      rw [FB]
      clear FB
      unfold hdC
      go_enter Tryd.func60, Tryd.ntmps60
      go_wp2_with fail
      go_ret
      exact ⟨rfl, (Below.refl _ _).alloc (Nat.le_refl _) _⟩
    · have FB : n8 (BitVec.ofInt 8 (firstN 2 4 ph)) = 227 := by rw [n8_nat]; rfl
      rw [FB]
      clear FB
      unfold hdC
      go_enter Tryd.func60, Tryd.ntmps60
      go_wp2_with fail
      go_ret
      exact ⟨rfl, (Below.refl _ _).alloc (Nat.le_refl _) _⟩
  · have FB : n8 (BitVec.ofInt 8 (firstN 3 z ph)) = 240 := by rw [n8_nat]; rfl
    rw [FB]
    clear FB
    unfold hdC
    go_enter Tryd.func60, Tryd.ntmps60
    go_wp2_with fail
    go_ret
    exact ⟨rfl, (Below.refl _ _).alloc (Nat.le_refl _) _⟩
  · rcases hz with h | h | rfl | rfl | rfl | rfl
    · omega
    · omega
    · cases ph
      · have FB : n8 (BitVec.ofInt 8 (firstN 4 1 false)) = 64 := by rw [n8_nat]; rfl
        rw [FB]
        clear FB
        unfold hdC
        go_enter Tryd.func60, Tryd.ntmps60
        go_wp2_with fail
        go_ret
        exact ⟨rfl, (Below.refl _ _).alloc (Nat.le_refl _) _⟩
      · have FB : n8 (BitVec.ofInt 8 (firstN 4 1 true)) = 68 := by rw [n8_nat]; rfl
        rw [FB]
        clear FB
        unfold hdC
        go_enter Tryd.func60, Tryd.ntmps60
        go_wp2_with fail
        go_ret
        exact ⟨rfl, (Below.refl _ _).alloc (Nat.le_refl _) _⟩
    · cases ph
      · have FB : n8 (BitVec.ofInt 8 (firstN 4 2 false)) = 65 := by rw [n8_nat]; rfl
        rw [FB]
        clear FB
        unfold hdC
        go_enter Tryd.func60, Tryd.ntmps60
        go_wp2_with fail
        go_ret
        exact ⟨rfl, (Below.refl _ _).alloc (Nat.le_refl _) _⟩
      · have FB : n8 (BitVec.ofInt 8 (firstN 4 2 true)) = 69 := by rw [n8_nat]; rfl
        rw [FB]
        clear FB
        unfold hdC
        go_enter Tryd.func60, Tryd.ntmps60
        go_wp2_with fail
        go_ret
        exact ⟨rfl, (Below.refl _ _).alloc (Nat.le_refl _) _⟩
    · cases ph
      · have FB : n8 (BitVec.ofInt 8 (firstN 4 3 false)) = 66 := by rw [n8_nat]; rfl
        rw [FB]
        clear FB
        unfold hdC
        go_enter Tryd.func60, Tryd.ntmps60
        go_wp2_with fail
        go_ret
        exact ⟨rfl, (Below.refl _ _).alloc (Nat.le_refl _) _⟩
      · have FB : n8 (BitVec.ofInt 8 (firstN 4 3 true)) = 70 := by rw [n8_nat]; rfl
        rw [FB]
        clear FB
        unfold hdC
        go_enter Tryd.func60, Tryd.ntmps60
        go_wp2_with fail
        go_ret
        exact ⟨rfl, (Below.refl _ _).alloc (Nat.le_refl _) _⟩
    · cases ph
      · have FB : n8 (BitVec.ofInt 8 (firstN 4 4 false)) = 67 := by rw [n8_nat]; rfl
        rw [FB]
        clear FB
        unfold hdC
        go_enter Tryd.func60, Tryd.ntmps60
        go_wp2_with fail
        go_ret
        exact ⟨rfl, (Below.refl _ _).alloc (Nat.le_refl _) _⟩
      · have FB : n8 (BitVec.ofInt 8 (firstN 4 4 true)) = 71 := by rw [n8_nat]; rfl
        rw [FB]
        clear FB
        unfold hdC
        go_enter Tryd.func60, Tryd.ntmps60
        go_wp2_with fail
        go_ret
        exact ⟨rfl, (Below.refl _ _).alloc (Nat.le_refl _) _⟩
  · have FB : n8 (BitVec.ofInt 8 (firstN 5 z ph)) = 192 := by rw [n8_nat]; rfl
    rw [FB]
    clear FB
    unfold hdC
    go_enter Tryd.func60, Tryd.ntmps60
    go_wp2_with fail
    go_ret
    exact ⟨rfl, (Below.refl _ _).alloc (Nat.le_refl _) _⟩
end Go.Proofs.YtcgbhcmgddgheaaDoor
