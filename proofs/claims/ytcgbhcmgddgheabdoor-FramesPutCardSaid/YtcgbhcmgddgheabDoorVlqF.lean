/-
  GetText, OF BYTES AND OF A TEXT.
-/
import Derived.Test.YtcgbhcmgddgheabDoorVlqE
namespace Go.Proofs.YtcgbhcmgddgheabDoor
open Go Go.RowKit Go.BigFrame
def isText (f : Nat → BitVec 8) (len : Nat) : Bool := decide (isNum f len = true ∧ getV f len ≤ 65535 ∧ getK f len + getV f len ≤ len)
def textE (f : Nat → BitVec 8) (len : Nat) : Int := if isNum f len = false then 3 else if 65535 < getV f len then 5 else if len < getK f len + getV f len then 3 else 0
def textS (f : Nat → BitVec 8) (len : Nat) : ByteArray := if textE f len = 0 then strOf (fun i => f (getK f len + i)) (getV f len) else ⟨#[]⟩
def textN (f : Nat → BitVec 8) (len : Nat) : Nat := if textE f len = 0 then getK f len + getV f len else 0
def texted (f : Nat → BitVec 8) (len : Nat) : Value := .tuple #[.string (textS f len), .int .i64 (textN f len : Int), .int .i64 (textE f len)]
theorem getE_no {f : Nat → BitVec 8} {len : Nat} (h : isNum f len = false) : getE f len = 3 := by unfold getE; simp [h]
theorem getE_yes {f : Nat → BitVec 8} {len : Nat} (h : isNum f len = true) : getE f len = 0 := by unfold getE; simp [h]
theorem texted_no {f : Nat → BitVec 8} {len : Nat} (c : Int) (hc : c ≠ 0) (h : textE f len = c) : texted f len = .tuple #[.string ⟨#[]⟩, .int .i64 0, .int .i64 c] := by
  unfold texted textS textN
  rw [h, if_neg hc, if_neg hc]
  rfl
theorem texted_yes {f : Nat → BitVec 8} {len : Nat} (h : textE f len = 0) : texted f len = .tuple #[.string (strOf (fun i => f (getK f len + i)) (getV f len)), .int .i64 ((getK f len + getV f len : Nat) : Int), .int .i64 0] := by
  unfold texted textS textN
  rw [if_pos h, if_pos h, h]
theorem run_cut (a : Option Addr) (lo hi m c : Nat) (h1 : lo ≤ hi) (h2 : hi ≤ c) : ∃ a', (∀ w : World, (Instr.sliceAt 28 (.slice a m c) (some (.int .i64 (lo : Int))) (some (.int .i64 (hi : Int))) none).run Tryd.prog w = .ok (.slice a' (hi - lo) (c - lo)) w) ∧ (c ≠ lo → a' = a.map (·.add lo)) := by
  refine ⟨if c = lo then a else a.map (·.add lo), fun w => ?_, fun h => by rw [if_neg h]⟩
  have hu : Tryd.prog.underlying 28 = some (.slice (Tryd.prog.elem 28)) := by kernel_rfl
  rw [run_sliceAt_slice (t := 28) (h := hu), run_slice_any (t := 28) (ht := hu)]
  have h0 : (0 : Int) ≤ (lo : Int) := by omega
  have h4 : (hi : Int) ≤ (c : Int) := by omega
  simp [Instr.sliceBounds, go_sem, h0, h4]
  intro h
  omega
theorem addr_add (b o k : Nat) : (⟨b, o, none⟩ : Addr).add k = ⟨b, o + k, none⟩ := by unfold Addr.add; split <;> simp_all
/-- A part of bytes that came in, as a text. -/
theorem conv_cut {w : World} {a a' : Option Addr} {len cap lo n : Nat} {f : Nat → BitVec 8} (hb : BytesIn w a len f) (hn : lo + n ≤ len) (hc : len ≤ cap) (ha : cap ≠ lo → a' = a.map (·.add lo)) (c : Nat) :
    (convert 28 9 (.slice a' n c)).run Tryd.prog w = .ok (.string (strOf (fun i => f (lo + i)) n)) w := by
  by_cases h0 : n = 0
  · subst h0
    rw [str_empty]
    have h1 : Tryd.prog.underlying 28 = some (.slice 5) := by kernel_rfl
    have h2 : Tryd.prog.underlying 9 = some .string := by kernel_rfl
    have h3 : Tryd.prog.underlying 5 = some (.int .u8) := by kernel_rfl
    cases a' with
    | none =>
      simp [convert, run_underlying h1, run_underlying h2, run_underlying h3, Sem.run_bind]
      rfl
    | some x =>
      have h := run_convert_bytes_back (P := Tryd.prog) w 28 9 5 x c [] (by kernel_rfl) (by kernel_rfl) (by kernel_rfl) (fun j hj => by simp at hj)
      exact h
  obtain h | ⟨b, off, rfl, hbb, hcell⟩ := hb.2
  · omega
  rw [ha (by omega)]
  show (convert 28 9 (.slice (some (Addr.add ⟨b, off, none⟩ lo)) n c)).run _ w = _
  rw [addr_add]
  exact conv_str _ b (off + lo) n c w (fun i hi => by rw [Nat.add_assoc]; exact hcell (lo + i) (by omega))
theorem str_cut (f : Nat → BitVec 8) (lo hi len : Nat) (h1 : lo ≤ hi) (h2 : hi ≤ len) : (strOf f len).extract lo hi = strOf (fun i => f (lo + i)) (hi - lo) := by
  apply ByteArray.ext
  rw [ByteArray.data_extract]
  apply Array.ext_getElem?
  intro i
  show ((strL f len).toArray.extract lo hi)[i]? = (strL (fun i => f (lo + i)) (hi - lo)).toArray[i]?
  by_cases h : i < hi - lo
  · simp [strL, h]
    have : lo + i < len := by omega
    simp [this]
  · rw [Array.getElem?_eq_none (by simp [strL]; omega), Array.getElem?_eq_none (by simp [strL]; omega)]
theorem run_cut_str (f : Nat → BitVec 8) (lo hi len : Nat) (h1 : lo ≤ hi) (h2 : hi ≤ len) (w : World) :
    (Instr.sliceAt 9 (.string (strOf f len)) (some (.int .i64 (lo : Int))) (some (.int .i64 (hi : Int))) none).run Tryd.prog w = .ok (.string (strOf (fun i => f (lo + i)) (hi - lo))) w := by
  have hu : Tryd.prog.underlying 9 = some .string := by kernel_rfl
  rw [← str_cut f lo hi len h1 h2]
  have h0 : (0 : Int) ≤ (lo : Int) := by omega
  have h4 : (hi : Int) ≤ ((strOf f len).size : Int) := by rw [strOf_size]; omega
  simp [Instr.sliceAt, Instr.slice, Instr.sliceBounds, run_underlying hu, go_sem, h0, h4, Sem.run_bind]
  intro h
  omega
end Go.Proofs.YtcgbhcmgddgheabDoor
