/-
  FRAMES: a stream's frame: what Put answers; what Get answers to the same without its count.
-/
import Derived.Test.YtcgbhcmgddgheabDoorFrT
namespace Go.Proofs.YtcgbhcmgddgheabDoor
open Go Go.RowKit Go.BigFrame
set_option linter.unusedSimpArgs false
set_option linter.unusedVariables false
set_option maxRecDepth 100000
def headS (S O : Int) : ByteArray := if O = 0 then numT S else numT S ++ numT O
def firstS (O : Int) (F : Bool) : Nat := if O = 0 then (if F = true then 11 else 10) else (if F = true then 15 else 14)
def okS (S O : Int) (D : ByteArray) : Prop := (0 ≤ S ∧ S ≤ MX) ∧ (0 ≤ O ∧ O ≤ MX) ∧ O ≤ MX - D.size
instance (S O : Int) (D : ByteArray) : Decidable (okS S O D) := by unfold okS; infer_instance
theorem headS_size (S O : Int) : (headS S O).size ≤ 16 := by
  unfold headS
  split
  · have := (numT_size S).2; omega
  · rw [size_append]; have h1 := (numT_size S).2; have h2 := (numT_size O).2; omega
theorem numT_len (d : Nat) (hd : d ≤ 2000) : (numT (d : Int)).size = if 64 ≤ d then 2 else 1 := by
  unfold numT
  rw [strOf_size]
  have e : (BitVec.ofInt 64 (d : Int)).toNat = d := by rw [BitVec.toNat_ofInt]; omega
  unfold least
  rw [e]
  by_cases h : 64 ≤ d
  · rw [if_neg (by omega), if_pos (by omega), if_pos h]
  · rw [if_pos (by omega), if_neg h]
theorem put_parts (S O : Int) (F : Bool) (D : ByteArray) (hD : (D.size : Int) ≤ 65535) (k : Nat) (hk : firstF ⟨8, S, O, 0, 0, F, D, ⟨#[]⟩, []⟩ = (k : Int)) (hp : partsL (k : Int) = some (if O = 0 then [0, 4] else [0, 1, 4])) :
    putF ⟨8, S, O, 0, 0, F, D, ⟨#[]⟩, []⟩ = if okS S O D then some (byteT k ++ (headS S O ++ (numT (D.size : Int) ++ D))) else none := by
  unfold putF
  rw [hk, hp]
  dsimp only
  have hz : (0 : Int) ≤ MX := by unfold MX; omega
  by_cases hO : O = 0
  · rw [if_pos hO]
    by_cases hc : okS S O D
    · rw [if_pos hc, if_pos]
      · unfold headS
        rw [if_pos hO]
        show some (byteT (k : Int).toNat ++ (numT S ++ ((numT (D.size : Int) ++ D) ++ (⟨#[]⟩ : ByteArray)))) = _
        rw [app_nil, Int.toNat_natCast]
      · obtain ⟨hS, h1, h2⟩ := hc
        refine ⟨⟨fun p hp => ?_, ?_⟩, .inr h2⟩
        · rcases List.mem_cons.1 hp with rfl | hp
          · exact hS
          · rw [List.mem_singleton] at hp; subst hp
            exact ⟨by show (0 : Int) ≤ _; omega, hD⟩
        · subst hO
          exact ⟨rfl, rfl, rfl, rfl, rfl, rfl, rfl, rfl⟩
    · rw [if_neg hc, if_neg]
      intro h
      have h2 : O ≤ MX - D.size := by rcases h.2 with h3 | h3; · exact absurd rfl h3.2
                                      · exact h3
      exact hc ⟨h.1.1 0 (by simp), ⟨by omega, by omega⟩, h2⟩
  · rw [if_neg hO]
    by_cases hc : okS S O D
    · rw [if_pos hc, if_pos]
      · unfold headS
        rw [if_neg hO]
        show some (byteT (k : Int).toNat ++ (numT S ++ (numT O ++ ((numT (D.size : Int) ++ D) ++ (⟨#[]⟩ : ByteArray))))) = _
        rw [app_nil, Int.toNat_natCast, ByteArray.append_assoc]
      · obtain ⟨hS, h1, h2⟩ := hc
        refine ⟨⟨fun p hp => ?_, ?_⟩, .inr h2⟩
        · rcases List.mem_cons.1 hp with rfl | hp
          · exact hS
          · rcases List.mem_cons.1 hp with rfl | hp
            · exact h1
            · rw [List.mem_singleton] at hp; subst hp
              exact ⟨by show (0 : Int) ≤ _; omega, hD⟩
        · exact ⟨rfl, rfl, rfl, rfl, rfl, rfl, rfl, rfl⟩
    · rw [if_neg hc, if_neg]
      intro h
      have h2 : O ≤ MX - D.size := by rcases h.2 with h3 | h3; · exact absurd rfl h3.2
                                      · exact h3
      exact hc ⟨h.1.1 0 (by simp), h.1.1 1 (by simp), h2⟩
theorem put_stream (S O : Int) (F : Bool) (D : ByteArray) (hD : (D.size : Int) ≤ 65535) :
    putF ⟨8, S, O, 0, 0, F, D, ⟨#[]⟩, []⟩ = if okS S O D then some (byteT (firstS O F) ++ (headS S O ++ (numT (D.size : Int) ++ D))) else none := by
  apply put_parts S O F D hD
  · unfold firstF firstS
    dsimp only
    rw [if_pos rfl]
    by_cases hO : O = 0 <;> cases F <;> simp [hO]
  · unfold firstS
    by_cases hO : O = 0 <;> cases F <;> simp [hO] <;> rfl
theorem get_parts {G : Nat → BitVec 8} {len : Nat} (S O : Int) (F : Bool) (D : ByteArray) (hc : okS S O D) (hD : (D.size : Int) ≤ 65535) (k : Nat) (hk : k < 256) (hf0 : fr0 (k : Int) = ⟨8, 0, 0, 0, 0, F, ⟨#[]⟩, ⟨#[]⟩, []⟩) (hp : partsL (k : Int) = some (if O = 0 then [0, 5] else [0, 1, 5]))
    (h : Sg G 0 (byteT k ++ (headS S O ++ D))) (hl : (byteT k ++ (headS S O ++ D)).size = len) :
    getR G len = (⟨8, S, O, 0, 0, F, D, ⟨#[]⟩, []⟩, len, 0) := by
  obtain ⟨hS, h1, h2⟩ := hc
  have hb : (byteT k).size = 1 := strOf_size _ _
  have h0 := byteT_at h.left
  have hr := Sg.shift h.right (show 0 + (byteT k).size = 1 by omega)
  rw [size_append, hb, size_append] at hl
  have hk' : ((G 0).toNat : Int) = (k : Int) := by rw [h0, BitVec.toNat_ofNat]; omega
  have hn : ∀ p : Nat, rNeed true ⟨p, 0⟩ = ⟨p, 0⟩ := fun p => rfl
  have hfs : ∀ f : Fr, f.S = S → fitsF f 0 := fun f e => by show 0 ≤ f.S ∧ f.S ≤ MX; rw [e]; exact hS
  have hend : endsF ⟨8, S, O, 0, 0, F, D, ⟨#[]⟩, []⟩ := .inr h2
  have hfd : fitsF ⟨8, S, O, 0, 0, F, D, ⟨#[]⟩, []⟩ 5 := ⟨by show (0 : Int) ≤ _; omega, hD⟩
  unfold getR
  rw [if_neg (by omega), hk', hp]
  dsimp only
  rw [hf0]
  by_cases hO : O = 0
  · rw [if_pos hO]
    unfold headS at hr hl
    rw [if_pos hO] at hr hl
    have e1 := num_back (len := len) hr.left (by omega) hS.1 hS.2
    have hd := Sg.text hr.right rfl
    have hg1 : rPart G len ⟨8, 0, 0, 0, 0, F, ⟨#[]⟩, ⟨#[]⟩, []⟩ ⟨1, 0⟩ 0 = (⟨8, S, 0, 0, 0, F, ⟨#[]⟩, ⟨#[]⟩, []⟩, ⟨1 + (numT S).size, 0⟩) := by
      show (({ (⟨8, 0, 0, 0, 0, F, ⟨#[]⟩, ⟨#[]⟩, []⟩ : Fr) with S := ((rNum G len ⟨1, 0⟩).1 : Int) } : Fr), (rNum G len ⟨1, 0⟩).2) = _
      rw [e1]
      dsimp only
      rw [Int.toNat_of_nonneg hS.1]
    have hg5 : rPart G len ⟨8, S, 0, 0, 0, F, ⟨#[]⟩, ⟨#[]⟩, []⟩ ⟨1 + (numT S).size, 0⟩ 5 = (⟨8, S, 0, 0, 0, F, D, ⟨#[]⟩, []⟩, ⟨len, 0⟩) := by
      show (({ (⟨8, S, 0, 0, 0, F, ⟨#[]⟩, ⟨#[]⟩, []⟩ : Fr) with D := (rText G len (len - (1 + (numT S).size)) ⟨1 + (numT S).size, 0⟩).1 } : Fr), (rText G len (len - (1 + (numT S).size)) ⟨1 + (numT S).size, 0⟩).2) = _
      have hlen : len - (1 + (numT S).size) = D.size := by omega
      rw [hlen]
      unfold rText
      rw [if_pos rfl, if_pos (by show D.size ≤ len - (1 + (numT S).size); omega)]
      dsimp only
      rw [hd, show 1 + (numT S).size + D.size = len by omega]
    subst hO
    unfold rParts
    rw [hg1]
    dsimp only
    rw [decide_eq_true (hfs _ rfl), hn]
    unfold rParts
    rw [hg5]
    dsimp only
    rw [decide_eq_true hfd, hn]
    unfold rParts
    dsimp only
    rw [decide_eq_true hend, hn]
    rfl
  · rw [if_neg hO]
    unfold headS at hr hl
    rw [if_neg hO] at hr hl
    rw [size_append] at hl
    have e1 := num_back (len := len) hr.left.left (by omega) hS.1 hS.2
    have e2 := num_back (len := len) hr.left.right (by omega) h1.1 h1.2
    have hd := Sg.text (Sg.shift hr.right (show 1 + (numT S ++ numT O).size = 1 + (numT S).size + (numT O).size by rw [size_append]; omega)) rfl
    have hg1 : rPart G len ⟨8, 0, 0, 0, 0, F, ⟨#[]⟩, ⟨#[]⟩, []⟩ ⟨1, 0⟩ 0 = (⟨8, S, 0, 0, 0, F, ⟨#[]⟩, ⟨#[]⟩, []⟩, ⟨1 + (numT S).size, 0⟩) := by
      show (({ (⟨8, 0, 0, 0, 0, F, ⟨#[]⟩, ⟨#[]⟩, []⟩ : Fr) with S := ((rNum G len ⟨1, 0⟩).1 : Int) } : Fr), (rNum G len ⟨1, 0⟩).2) = _
      rw [e1]
      dsimp only
      rw [Int.toNat_of_nonneg hS.1]
    have hg2 : rPart G len ⟨8, S, 0, 0, 0, F, ⟨#[]⟩, ⟨#[]⟩, []⟩ ⟨1 + (numT S).size, 0⟩ 1 = (⟨8, S, O, 0, 0, F, ⟨#[]⟩, ⟨#[]⟩, []⟩, ⟨1 + (numT S).size + (numT O).size, 0⟩) := by
      show (({ (⟨8, S, 0, 0, 0, F, ⟨#[]⟩, ⟨#[]⟩, []⟩ : Fr) with O := ((rNum G len ⟨1 + (numT S).size, 0⟩).1 : Int) } : Fr), (rNum G len ⟨1 + (numT S).size, 0⟩).2) = _
      rw [e2]
      dsimp only
      rw [Int.toNat_of_nonneg h1.1]
    have hg5 : rPart G len ⟨8, S, O, 0, 0, F, ⟨#[]⟩, ⟨#[]⟩, []⟩ ⟨1 + (numT S).size + (numT O).size, 0⟩ 5 = (⟨8, S, O, 0, 0, F, D, ⟨#[]⟩, []⟩, ⟨len, 0⟩) := by
      show (({ (⟨8, S, O, 0, 0, F, ⟨#[]⟩, ⟨#[]⟩, []⟩ : Fr) with D := (rText G len (len - (1 + (numT S).size + (numT O).size)) ⟨1 + (numT S).size + (numT O).size, 0⟩).1 } : Fr), (rText G len (len - (1 + (numT S).size + (numT O).size)) ⟨1 + (numT S).size + (numT O).size, 0⟩).2) = _
      have hlen : len - (1 + (numT S).size + (numT O).size) = D.size := by omega
      rw [hlen]
      unfold rText
      rw [if_pos rfl, if_pos (by show D.size ≤ len - (1 + (numT S).size + (numT O).size); omega)]
      dsimp only
      rw [hd, show 1 + (numT S).size + (numT O).size + D.size = len by omega]
    have hfo : fitsF ⟨8, S, O, 0, 0, F, ⟨#[]⟩, ⟨#[]⟩, []⟩ 1 := h1
    unfold rParts
    rw [hg1]
    dsimp only
    rw [decide_eq_true (hfs _ rfl), hn]
    unfold rParts
    rw [hg2]
    dsimp only
    rw [decide_eq_true hfo, hn]
    unfold rParts
    rw [hg5]
    dsimp only
    rw [decide_eq_true hfd, hn]
    unfold rParts
    dsimp only
    rw [decide_eq_true hend, hn]
    rfl
theorem get_stream {G : Nat → BitVec 8} {len : Nat} (S O : Int) (F : Bool) (D : ByteArray) (hc : okS S O D) (hD : (D.size : Int) ≤ 65535)
    (h : Sg G 0 (byteT (firstS O F - 2) ++ (headS S O ++ D))) (hl : (byteT (firstS O F - 2) ++ (headS S O ++ D)).size = len) :
    getR G len = (⟨8, S, O, 0, 0, F, D, ⟨#[]⟩, []⟩, len, 0) := by
  refine get_parts S O F D hc hD (firstS O F - 2) ?_ ?_ ?_ h hl
  · unfold firstS; by_cases hO : O = 0 <;> cases F <;> simp [hO]
  · unfold firstS; by_cases hO : O = 0 <;> cases F <;> simp [hO] <;> rfl
  · unfold firstS; by_cases hO : O = 0 <;> cases F <;> simp [hO] <;> rfl
end Go.Proofs.YtcgbhcmgddgheabDoor
