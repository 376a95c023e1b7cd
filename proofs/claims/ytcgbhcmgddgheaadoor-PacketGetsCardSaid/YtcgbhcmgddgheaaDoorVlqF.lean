/-
  GetText, OF BYTES AND OF A TEXT.
-/
import Derived.Test.YtcgbhcmgddgheaaDoorVlqE
namespace Go.Proofs.YtcgbhcmgddgheaaDoor
open Go Go.RowKit Go.BigFrame
def isText (f : Nat → BitVec 8) (len : Nat) : Bool := decide (isNum f len = true ∧ getV f len ≤ 65535 ∧ getK f len + getV f len ≤ len)
def textE (f : Nat → BitVec 8) (len : Nat) : Int := if isNum f len = false then 3 else if 65535 < getV f len then 5 else if len < getK f len + getV f len then 3 else 0
def textS (f : Nat → BitVec 8) (len : Nat) : ByteArray := if textE f len = 0 then strOf (fun i => f (getK f len + i)) (getV f len) else ⟨#[]⟩
def textN (f : Nat → BitVec 8) (len : Nat) : Nat := if textE f len = 0 then getK f len + getV f len else 0
def texted (f : Nat → BitVec 8) (len : Nat) : Value := .tuple #[.string (textS f len), .int .i64 (textN f len : Int), .int .i64 (textE f len)]
theorem getE_no {f : Nat → BitVec 8} {len : Nat} (h : isNum f len = false) : getE f len = 3 := by unfold getE; simp [h]
theorem getE_yes {f : Nat → BitVec 8} {len : Nat} (h : isNum f len = true) : getE f len = 0 := by unfold getE; simp [h]
theorem texted_no {f : Nat → BitVec 8} {len : Nat} (c : Int) (hc : c ≠ 0) (h : textE f len = c) : texted f len = .tuple #[.string ⟨#[]⟩, .int .i64 0, .int .i64 c] := by
  unfold texted textS textN
  rw [h, if_neg hc, if_neg hc]
  rfl
theorem texted_yes {f : Nat → BitVec 8} {len : Nat} (h : textE f len = 0) : texted f len = .tuple #[.string (strOf (fun i => f (getK f len + i)) (getV f len)), .int .i64 ((getK f len + getV f len : Nat) : Int), .int .i64 0] := by
  unfold texted textS textN
  rw [if_pos h, if_pos h, h]
theorem run_cut (a : Option Addr) (lo hi m c : Nat) (h1 : lo ≤ hi) (h2 : hi ≤ c) : ∃ a', (∀ w : World, (Instr.sliceAt 26 (.slice a m c) (some (.int .i64 (lo : Int))) (some (.int .i64 (hi : Int))) none).run Tryd.prog w = .ok (.slice a' (hi - lo) (c - lo)) w) ∧ (c ≠ lo → a' = a.map (·.add lo)) := by
  refine ⟨if c = lo then a else a.map (·.add lo), fun w => ?_, fun h => by rw [if_neg h]⟩
  have hu : Tryd.prog.underlying 26 = some (.slice (Tryd.prog.elem 26)) := by kernel_rfl
  rw [run_sliceAt_slice (t := 26) (h := hu), run_slice_any (t := 26) (ht := hu)]
  have h0 : (0 : Int) ≤ (lo : Int) := by omega
  have h4 : (hi : Int) ≤ (c : Int) := by omega
  simp [Instr.sliceBounds, go_sem, h0, h4]
  intro h
  omega
theorem addr_add (b o k : Nat) : (⟨b, o, none⟩ : Addr).add k = ⟨b, o + k, none⟩ := by unfold Addr.add; split <;> simp_all
/-- A part of bytes that came in, as a text. -/
theorem conv_cut {w : World} {a a' : Option Addr} {len cap lo n : Nat} {f : Nat → BitVec 8} (hb : BytesIn w a len f) (hn : lo + n ≤ len) (hc : len ≤ cap) (ha : cap ≠ lo → a' = a.map (·.add lo)) (c : Nat) :
    (convert 26 9 (.slice a' n c)).run Tryd.prog w = .ok (.string (strOf (fun i => f (lo + i)) n)) w := by
  by_cases h0 : n = 0
  · subst h0
    rw [str_empty]
    have h1 : Tryd.prog.underlying 26 = some (.slice 5) := by kernel_rfl
    have h2 : Tryd.prog.underlying 9 = some .string := by kernel_rfl
    have h3 : Tryd.prog.underlying 5 = some (.int .u8) := by kernel_rfl
    cases a' with
    | none =>
      simp [convert, run_underlying h1, run_underlying h2, run_underlying h3, Sem.run_bind]
      rfl
    | some x =>
      have h := run_convert_bytes_back (P := Tryd.prog) w 26 9 5 x c [] (by kernel_rfl) (by kernel_rfl) (by kernel_rfl) (fun j hj => by simp at hj)
      exact h
  obtain h | ⟨b, off, rfl, hbb, hcell⟩ := hb.2
  · omega
  rw [ha (by omega)]
  show (convert 26 9 (.slice (some (Addr.add ⟨b, off, none⟩ lo)) n c)).run _ w = _
  rw [addr_add]
  exact conv_str _ b (off + lo) n c w (fun i hi => by rw [Nat.add_assoc]; exact hcell (lo + i) (by omega))
theorem str_cut (f : Nat → BitVec 8) (lo hi len : Nat) (h1 : lo ≤ hi) (h2 : hi ≤ len) : (strOf f len).extract lo hi = strOf (fun i => f (lo + i)) (hi - lo) := by
  apply ByteArray.ext
  rw [ByteArray.data_extract]
  apply Array.ext_getElem?
  intro i
  show ((strL f len).toArray.extract lo hi)[i]? = (strL (fun i => f (lo + i)) (hi - lo)).toArray[i]?
  by_cases h : i < hi - lo
  · simp [strL, h]
    have : lo + i < len := by omega
    simp [this]
  · rw [Array.getElem?_eq_none (by simp [strL]; omega), Array.getElem?_eq_none (by simp [strL]; omega)]
set_option maxHeartbeats 1000000 in
theorem getText_no (f : Nat → BitVec 8) (a : Option Addr) (len cap : Nat) (w : World) (hb : BytesIn w a len f) (hlc : len ≤ cap) (hm : cap ≤ maxLen) (h : isNum f len = false) :
    Calls Tryd.prog 27 #[.slice a len cap] w fun e w' => e = .returned (texted f len) ∧ w = w' := by
  have G := Lib.hid (get_any f a len cap w hb hlc hm)
  rw [texted_no 3 (by decide) (by unfold textE; rw [if_pos h])]
  unfold gotten at G
  rw [getE_no h] at G
  clear h hm hb hlc
  go_enter Tryd.func27, Tryd.ntmps27
  go_wp2_with fail
  refine G.out.mono ?_
  rintro e w' ⟨rfl, rfl⟩
  go_wp2_with fail
  go_ret3
  exact ⟨rfl, rfl⟩
set_option maxRecDepth 100000 in
set_option maxHeartbeats 4000000 in
theorem getText_yes (f : Nat → BitVec 8) (a : Option Addr) (len cap : Nat) (w : World) (hb : BytesIn w a len f) (hlc : len ≤ cap) (hm : cap ≤ maxLen) (h : isNum f len = true) :
    Calls Tryd.prog 27 #[.slice a len cap] w fun e w' => e = .returned (texted f len) ∧ w = w' := by
  have G := Lib.hid (get_any f a len cap w hb hlc hm)
  have hK : getK f len ≤ 8 := by
    unfold getK; rw [if_pos h]
    have := gk_lt f
    obtain hk | hk | hk | hk : gk f = 0 ∨ gk f = 1 ∨ gk f = 2 ∨ gk f = 3 := by omega
    all_goals rw [hk]; decide
  have hV0 : 0 ≤ getV f len := by omega
  unfold gotten at G
  rw [getE_yes h] at G
  by_cases hV : 65535 < getV f len
  · rw [texted_no 5 (by decide) (by unfold textE; rw [if_neg (by simp [h]), if_pos hV])]
    have hV' : (65535 : Int) < (getV f len : Int) := by omega
    generalize getV f len = V at *
    generalize getK f len = K at *
    clear h hm hb hlc hV hV0
    go_enter Tryd.func27, Tryd.ntmps27
    go_wp2_with fail
    refine G.out.mono ?_
    rintro e w' ⟨rfl, rfl⟩
    go_wp2_with fail
    go_ret3
    exact ⟨rfl, rfl⟩
  have hcm : cap ≤ 9223372036854775807 := by unfold maxLen at hm; omega
  by_cases hL : len < getK f len + getV f len
  · rw [texted_no 3 (by decide) (by unfold textE; rw [if_neg (by simp [h]), if_neg hV, if_pos hL])]
    generalize getV f len = V at *
    generalize getK f len = K at *
    have hV1 : ¬ (65535 : Int) < (V : Int) := by omega
    have hL' : (len : Int) < (K : Int) + (V : Int) := by omega
    have hV2 : (V : Int) ≤ 65535 := by omega
    have hlm : len ≤ 9223372036854775807 := by omega
    clear h hm hb hV hV0 hlc
    go_enter Tryd.func27, Tryd.ntmps27
    go_wp2_with fail
    refine G.out.mono ?_
    rintro e w' ⟨rfl, rfl⟩
    go_wp2_with fail
    go_ret3
    exact ⟨rfl, rfl⟩
  · rw [texted_yes (by unfold textE; rw [if_neg (by simp [h]), if_neg hV, if_neg hL])]
    generalize getV f len = V at *
    generalize getK f len = K at *
    have hV1 : ¬ (65535 : Int) < (V : Int) := by omega
    have hL' : ¬ (len : Int) < (K : Int) + (V : Int) := by omega
    have hV2 : (V : Int) ≤ 65535 := by omega
    have hlm : len ≤ 9223372036854775807 := by omega
    obtain ⟨a', hcut, ha'⟩ := run_cut a K (K + V) len cap (by omega) (by omega)
    have hcv := conv_cut (n := V) hb (by omega) hlc ha' (cap - K)
    rw [show K + V - K = V by omega, show ((K + V : Nat) : Int) = (K : Int) + (V : Int) by omega] at hcut
    rw [show ((K + V : Nat) : Int) = (K : Int) + (V : Int) by omega]
    clear h hm hb hV hV0 ha'
    go_enter Tryd.func27, Tryd.ntmps27
    go_wp2_with fail
    refine G.out.mono ?_
    rintro e w' ⟨rfl, rfl⟩
    go_wp2_with fail
    go_ret3
    exact ⟨rfl, rfl⟩
theorem getText_any (f : Nat → BitVec 8) (a : Option Addr) (len cap : Nat) (w : World) (hb : BytesIn w a len f) (hlc : len ≤ cap) (hm : cap ≤ maxLen) :
    Calls Tryd.prog 27 #[.slice a len cap] w fun e w' => e = .returned (texted f len) ∧ w = w' := by
  cases h : isNum f len with
  | true => exact getText_yes f a len cap w hb hlc hm h
  | false => exact getText_no f a len cap w hb hlc hm h
theorem run_cut_str (f : Nat → BitVec 8) (lo hi len : Nat) (h1 : lo ≤ hi) (h2 : hi ≤ len) (w : World) :
    (Instr.sliceAt 9 (.string (strOf f len)) (some (.int .i64 (lo : Int))) (some (.int .i64 (hi : Int))) none).run Tryd.prog w = .ok (.string (strOf (fun i => f (lo + i)) (hi - lo))) w := by
  have hu : Tryd.prog.underlying 9 = some .string := by kernel_rfl
  rw [← str_cut f lo hi len h1 h2]
  have h0 : (0 : Int) ≤ (lo : Int) := by omega
  have h4 : (hi : Int) ≤ ((strOf f len).size : Int) := by rw [strOf_size]; omega
  simp [Instr.sliceAt, Instr.slice, Instr.sliceBounds, run_underlying hu, go_sem, h0, h4, Sem.run_bind]
  intro h
  omega
set_option maxHeartbeats 1000000 in
theorem refText_no (f : Nat → BitVec 8) (len : Nat) (w : World) (hm : len ≤ maxLen) (h : isNum f len = false) :
    Calls Tryd.prog 26 #[.string (strOf f len)] w fun e w' => e = .returned (texted f len) ∧ w = w' := by
  have G := Lib.hid (refGet_any f len w hm)
  rw [texted_no 3 (by decide) (by unfold textE; rw [if_pos h])]
  unfold gotten at G
  rw [getE_no h] at G
  clear h hm
  go_enter Tryd.func26, Tryd.ntmps26
  go_wp2_with fail
  refine G.out.mono ?_
  rintro e w' ⟨rfl, rfl⟩
  go_wp2_with fail
  go_ret3
  exact ⟨rfl, rfl⟩
set_option maxRecDepth 100000 in
set_option maxHeartbeats 4000000 in
theorem refText_yes (f : Nat → BitVec 8) (len : Nat) (w : World) (hm : len ≤ maxLen) (h : isNum f len = true) :
    Calls Tryd.prog 26 #[.string (strOf f len)] w fun e w' => e = .returned (texted f len) ∧ w = w' := by
  have G := Lib.hid (refGet_any f len w hm)
  have hK : getK f len ≤ 8 := by
    unfold getK; rw [if_pos h]
    have := gk_lt f
    obtain hk | hk | hk | hk : gk f = 0 ∨ gk f = 1 ∨ gk f = 2 ∨ gk f = 3 := by omega
    all_goals rw [hk]; decide
  have hKl : getK f len ≤ len := by
    unfold getK; rw [if_pos h]
    exact (of_decide_eq_true h).2
  unfold gotten at G
  rw [getE_yes h] at G
  have hsz := strOf_size f len
  have hcm : len ≤ 9223372036854775807 := by unfold maxLen at hm; omega
  by_cases hV : 65535 < getV f len
  · rw [texted_no 5 (by decide) (by unfold textE; rw [if_neg (by simp [h]), if_pos hV])]
    have hV' : (65535 : Int) < (getV f len : Int) := by omega
    generalize getV f len = V at *
    generalize getK f len = K at *
    generalize strOf f len = s at *
    clear h hm hV hKl
    go_enter Tryd.func26, Tryd.ntmps26
    go_wp2_with fail
    refine G.out.mono ?_
    rintro e w' ⟨rfl, rfl⟩
    go_wp2_with fail
    go_ret3
    exact ⟨rfl, rfl⟩
  by_cases hL : len < getK f len + getV f len
  · rw [texted_no 3 (by decide) (by unfold textE; rw [if_neg (by simp [h]), if_neg hV, if_pos hL])]
    generalize getV f len = V at *
    generalize getK f len = K at *
    generalize strOf f len = s at *
    have hV1 : ¬ (65535 : Int) < (V : Int) := by omega
    have hL' : (len : Int) - (K : Int) < (V : Int) := by omega
    have hV2 : (V : Int) ≤ 65535 := by omega
    have hK1 : (K : Int) ≤ 8 := by omega
    clear h hm hV
    go_enter Tryd.func26, Tryd.ntmps26
    go_wp2_with fail
    refine G.out.mono ?_
    rintro e w' ⟨rfl, rfl⟩
    go_wp2_with fail
    go_ret3
    exact ⟨rfl, rfl⟩
  · rw [texted_yes (by unfold textE; rw [if_neg (by simp [h]), if_neg hV, if_neg hL])]
    generalize getV f len = V at *
    generalize getK f len = K at *
    have hV1 : ¬ (65535 : Int) < (V : Int) := by omega
    have hL' : ¬ (len : Int) - (K : Int) < (V : Int) := by omega
    have hV2 : (V : Int) ≤ 65535 := by omega
    have hcut := run_cut_str f K (K + V) len (by omega) (by omega)
    rw [show K + V - K = V by omega, show ((K + V : Nat) : Int) = (K : Int) + (V : Int) by omega] at hcut
    rw [show ((K + V : Nat) : Int) = (K : Int) + (V : Int) by omega]
    generalize strOf (fun i => f (K + i)) V = t at *
    generalize strOf f len = s at *
    clear h hm hV
    go_enter Tryd.func26, Tryd.ntmps26
    go_wp2_with fail
    refine G.out.mono ?_
    rintro e w' ⟨rfl, rfl⟩
    go_wp2_with fail
    go_ret3
    exact ⟨rfl, rfl⟩
theorem refText_any (f : Nat → BitVec 8) (len : Nat) (w : World) (hm : len ≤ maxLen) :
    Calls Tryd.prog 26 #[.string (strOf f len)] w fun e w' => e = .returned (texted f len) ∧ w = w' := by
  cases h : isNum f len with
  | true => exact refText_yes f len w hm h
  | false => exact refText_no f len w hm h
end Go.Proofs.YtcgbhcmgddgheaaDoor
