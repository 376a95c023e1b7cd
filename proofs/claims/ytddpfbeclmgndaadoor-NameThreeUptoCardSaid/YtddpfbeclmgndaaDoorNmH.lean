/-
  name: bytes of one's own as lists; appendPart; Wire.
-/
import Derived.Test.YtddpfbeclmgndaaDoorNmG
namespace Go.Proofs.YtddpfbeclmgndaaDoor
open Go Go.RowKit Go.BigFrame
set_option linter.unusedSimpArgs false
set_option linter.unusedVariables false
/-- Bytes of one's own, from B on: these. -/
def OwnL (B : Nat) (v : Value) (L : List (BitVec 8)) (w : World) : Prop := Own B v L.length (bx L) w
theorem OwnL.later {B : Nat} {v : Value} {L : List (BitVec 8)} {w w' : World} (h : OwnL B v L w) (hb : Below w.heap.size w w') : OwnL B v L w' := Own.later h hb
theorem bx_app (A C : List (BitVec 8)) (i : Nat) : bx (A ++ C) i = joinb (bx A) A.length (bx C) i := by
  unfold bx joinb
  by_cases h : i < A.length
  · simp [h, List.getElem?_append_left h]
  · simp [h, List.getElem?_append_right (Nat.le_of_not_lt h)]
theorem OwnL.join {B m : Nat} {v : Value} {A C : List (BitVec 8)} {g : Nat → BitVec 8} {w : World} (h : Own B v (A.length + m) (joinb (bx A) A.length g) w) (hm : C.length = m) (hg : ∀ i, i < m → g i = bx C i) : OwnL B v (A ++ C) w := by
  unfold OwnL
  rw [List.length_append, hm]
  refine h.congr fun i hi => ?_
  rw [bx_app]
  unfold joinb
  split
  · rfl
  · exact hg _ (by omega)
theorem OwnL.nil (B : Nat) (w : World) (hB : B ≤ w.heap.size) : OwnL B (.slice none 0 0) [] w := Own.nil B _ w hB
/-- A part's bytes: the count, and these. -/
def partF (p : List (BitVec 8)) : List (BitVec 8) := BitVec.ofNat 8 p.length :: p
set_option maxHeartbeats 4000000 in
theorem appendPart_any {B : Nat} {v : Value} {A : List (BitVec 8)} (p : List (BitVec 8)) (w : World) (h : OwnL B v A w) (hp : p.length ≤ 255) (hn : A.length ≤ 1000000000) :
    Calls Tryd.prog 32 #[v, .string (sL p)] w fun e w' => ∃ v', e = .returned v' ∧ OwnL B v' (A ++ partF p) w' ∧ GrownV w w' v v' := by
  have hz := sL_size p
  have SR := Lib.hid (fun w' => src_str (bx p) p.length w')
  rw [← sL_of] at SR
  generalize sL p = D at *
  obtain ⟨m, hm⟩ : ∃ m, p.length = m := ⟨_, rfl⟩
  have HM := Lib.hid hm
  rw [hm] at hz SR hp
  have O : Hid (Own B v A.length (bx A) w) := h
  clear hm h
  have hb8 : (m : Int) ≤ 255 := by omega
  have e2 : n8 (BitVec.ofNat 8 m) = (m : Int) := by rw [n8_nat, BitVec.toNat_ofNat]; omega
  have s1 := src_one_new w (BitVec.ofNat 8 m)
  rw [e2] at s1
  have S1 := Lib.hid s1
  clear e2 s1
  go_enter Tryd.func32, Tryd.ntmps32
  go_wp2_with (first
    | (refine wpList_append_bytes (o := ⟨some 10, _, _, _, _, _⟩) rfl _ _ 29 rfl rfl rfl (O.out.alloc _) S1.out (by omega) ?_; intro v1 w1 ho1 hg1)
    | (refine wpList_append_bytes (o := ⟨some 12, _, _, _, _, _⟩) rfl _ _ 9 rfl rfl rfl ho1 (SR.out _) (by omega) ?_; intro v2 w2 ho2 hg2)
    | fail)
  go_ret
  have key : ∀ i, i < A.length + 1 → joinb (bx A) A.length (fun _ => BitVec.ofNat 8 m) i = bx (A ++ [BitVec.ofNat 8 m]) i := fun i hi => by
    rw [bx_app]
    unfold joinb
    split
    · rfl
    · obtain e : i - A.length = 0 := by omega
      rw [e]
      simp [bx]
  have o2 : Own B v2 ((A ++ [BitVec.ofNat 8 m]).length + m) (joinb (bx (A ++ [BitVec.ofNat 8 m])) (A ++ [BitVec.ofNat 8 m]).length (bx p)) w2 := by
    have el : (A ++ [BitVec.ofNat 8 m]).length = A.length + 1 := by simp
    rw [el]
    refine ho2.congr fun i hi => ?_
    have e1 : ∀ f : Nat → BitVec 8, joinb f (A.length + 1) (bx p) i = if i < A.length + 1 then f i else bx p (i - (A.length + 1)) := fun _ => rfl
    rw [e1, e1]
    split
    · rename_i h1; exact key i h1
    · rfl
  have o3 := OwnL.join (C := p) o2 HM.out (fun _ _ => rfl)
  rw [List.append_assoc] at o3
  refine ⟨v2, rfl, ?_, (GrownV.alloc w v _).trans (hg1.trans hg2)⟩
  unfold partF
  rw [HM.out]
  exact o3
/-- A name's bytes. -/
def wireTo (ps : List (List (BitVec 8))) : List (BitVec 8) := (ps.map partF).flatten
def wireF (L : List (BitVec 8)) : List (BitVec 8) := wireTo (labF L) ++ [0#8]
theorem wireTo_snoc (ps : List (List (BitVec 8))) (p : List (BitVec 8)) : wireTo (ps ++ [p]) = wireTo ps ++ partF p := by simp [wireTo]
end Go.Proofs.YtddpfbeclmgndaaDoor
