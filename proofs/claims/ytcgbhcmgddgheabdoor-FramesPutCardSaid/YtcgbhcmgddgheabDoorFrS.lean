/-
  FRAMES: an Ack comes back; the law's first look (framed).
-/
import Derived.Test.YtcgbhcmgddgheabDoorFrR
namespace Go.Proofs.YtcgbhcmgddgheabDoor
open Go Go.RowKit Go.BigFrame
set_option linter.unusedSimpArgs false
set_option linter.unusedVariables false
set_option maxRecDepth 100000
theorem byteT_at {F : Nat → BitVec 8} {p n : Nat} (h : Sg F p (byteT n)) : F p = BitVec.ofNat 8 n := by
  have h1 := Sg.at (g := fun _ => BitVec.ofNat 8 n) h 0 (by decide)
  rw [Nat.add_zero] at h1
  exact h1
theorem get_ack {F : Nat → BitVec 8} {len : Nat} (f : Fr) (A : List (Int × Int)) (hA : f.A = A) (hf : falling A) (hN : 0 ≤ f.N ∧ f.N ≤ MX) (h : Sg F 0 (byteT 2 ++ partsT f [9])) (hl : (byteT 2 ++ partsT f [9]).size ≤ len) :
    getR F len = (⟨2, 0, 0, f.N, 0, false, ⟨#[]⟩, ⟨#[]⟩, A⟩, (byteT 2 ++ partsT f [9]).size, 0) := by
  have e : partsT f [9] = numsT (acksL f.N A) := by
    show appF f 9 ++ (⟨#[]⟩ : ByteArray) = _
    rw [app_nil]
    show numsT (acksL f.N f.A) = _
    rw [hA]
  rw [e] at h hl ⊢
  have hb : (byteT 2).size = 1 := strOf_size _ _
  have h0 := byteT_at h.left
  have hr := h.right
  rw [size_append, hb] at hl ⊢
  rw [hb] at hr
  have hk : ((F 0).toNat : Int) = 2 := by rw [h0]; rfl
  unfold getR
  rw [if_neg (by omega), hk]
  have hp : partsL 2 = some [9] := rfl
  rw [hp]
  dsimp only
  have hf0 : fr0 2 = ⟨2, 0, 0, 0, 0, false, ⟨#[]⟩, ⟨#[]⟩, []⟩ := rfl
  rw [hf0]
  have hack := ack_back (len := len) f.N A hf hN (Sg.shift hr (Nat.zero_add 1)) (by omega)
  have hrp : rPart F len ⟨2, 0, 0, 0, 0, false, ⟨#[]⟩, ⟨#[]⟩, []⟩ ⟨1, 0⟩ 9 = (⟨2, 0, 0, f.N, 0, false, ⟨#[]⟩, ⟨#[]⟩, A⟩, ⟨1 + (numsT (acksL f.N A)).size, 0⟩) := by
    show (({ (⟨2, 0, 0, 0, 0, false, ⟨#[]⟩, ⟨#[]⟩, []⟩ : Fr) with N := (rAckF F len ⟨1, 0⟩).1, A := (rAckF F len ⟨1, 0⟩).2.1 } : Fr), (rAckF F len ⟨1, 0⟩).2.2) = _
    rw [hack]
  have hfit : fitsF ⟨2, 0, 0, f.N, 0, false, ⟨#[]⟩, ⟨#[]⟩, A⟩ 9 := ⟨hN, hf⟩
  have hend : endsF ⟨2, 0, 0, f.N, 0, false, ⟨#[]⟩, ⟨#[]⟩, A⟩ := .inl ⟨show (2 : Int) ≠ 6 by decide, show (2 : Int) ≠ 8 by decide⟩
  unfold rParts
  rw [hrp]
  dsimp only
  rw [decide_eq_true hfit]
  unfold rParts
  dsimp only
  have hn1 : rNeed true ⟨1 + (numsT (acksL f.N A)).size, 0⟩ = ⟨1 + (numsT (acksL f.N A)).size, 0⟩ := rfl
  rw [hn1]
  try dsimp only
  rw [decide_eq_true hend, hn1]
  rfl
theorem put_ack (A : List (Int × Int)) (N : Int) (hN : 0 ≤ N ∧ N ≤ MX) : putF ⟨2, 0, 0, N, 0, false, ⟨#[]⟩, ⟨#[]⟩, A⟩ = if falling A then some (byteT 2 ++ partsT ⟨2, 0, 0, N, 0, false, ⟨#[]⟩, ⟨#[]⟩, A⟩ [9]) else none := by
  have hfirst : firstF ⟨2, 0, 0, N, 0, false, ⟨#[]⟩, ⟨#[]⟩, A⟩ = 2 := rfl
  have hp : partsL 2 = some [9] := rfl
  unfold putF
  rw [hfirst, hp]
  dsimp only
  by_cases hf : falling A
  · rw [if_pos hf, if_pos]
    · rfl
    · refine ⟨⟨fun p hp => ?_, ?_⟩, .inl ⟨show (2 : Int) ≠ 6 by decide, show (2 : Int) ≠ 8 by decide⟩⟩
      · rw [List.mem_singleton] at hp; subst hp; exact ⟨hN, hf⟩
      · exact ⟨rfl, rfl, rfl, rfl, rfl, rfl, rfl, rfl⟩
  · rw [if_neg hf, if_neg]
    intro h
    exact hf (h.1.1 9 (List.mem_singleton.2 rfl)).2
theorem framed1 : putF ⟨8, 4, 0, 0, 0, true, ⟨#[97, 98]⟩, ⟨#[]⟩, []⟩ = some ⟨#[11, 4, 2, 97, 98]⟩ := by kernel_rfl
theorem framed2 : putF ⟨2, 0, 0, 1, 0, false, ⟨#[]⟩, ⟨#[]⟩, [(9, 10), (3, 5)]⟩ = some ⟨#[2, 10, 1, 1, 1, 2, 2]⟩ := by kernel_rfl
end Go.Proofs.YtcgbhcmgddgheabDoor
