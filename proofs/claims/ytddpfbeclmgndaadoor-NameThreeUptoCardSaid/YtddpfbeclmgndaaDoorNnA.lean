/-
  name: the order of names and what is under a name, as plain functions.
-/
import Derived.Test.YtddpfbeclmgndaaDoorNmY
namespace Go.Proofs.YtddpfbeclmgndaaDoor
open Go Go.RowKit Go.BigFrame
set_option linter.unusedSimpArgs false
set_option linter.unusedVariables false
theorem u8_lt (a b : UInt8) : (a < b) ↔ a.toNat < b.toNat := UInt8.lt_iff_toNat_lt
theorem u8_eq {a b : UInt8} (h : a.toNat = b.toNat) : a = b := UInt8.toNat_inj.1 h
theorem bl_irr : ∀ x : List UInt8, Op.bytesLess x x = false
  | [] => rfl
  | a :: x => by
    unfold Op.bytesLess
    rw [bl_irr x]
    simp [u8_lt]
theorem bl_tri : ∀ x y : List UInt8, x ≠ y → Op.bytesLess y x = !Op.bytesLess x y
  | [], [], h => absurd rfl h
  | [], _ :: _, _ => rfl
  | _ :: _, [], _ => rfl
  | a :: x, b :: y, h => by
    unfold Op.bytesLess
    by_cases hab : a = b
    · subst hab
      have hxy : x ≠ y := fun e => h (by rw [e])
      rw [bl_tri x y hxy]
      simp [u8_lt]
    · have h1 : a.toNat ≠ b.toNat := fun e => hab (u8_eq e)
      have e1 : (a == b) = false := beq_eq_false_iff_ne.2 hab
      have e2 : (b == a) = false := beq_eq_false_iff_ne.2 (fun e => hab e.symm)
      rw [e1, e2, Bool.false_and, Bool.false_and, Bool.or_false, Bool.or_false]
      by_cases hl : a.toNat < b.toNat
      · have h3 : ¬ b.toNat < a.toNat := by omega
        simp [u8_lt, hl, h3]
      · have h3 : b.toNat < a.toNat := by omega
        simp [u8_lt, hl, h3]
theorem bl_trans : ∀ x y z : List UInt8, Op.bytesLess x y = true → Op.bytesLess y z = true → Op.bytesLess x z = true
  | _, [], [], _, h2 => by simp [Op.bytesLess] at h2
  | _, _ :: _, [], _, h2 => by simp [Op.bytesLess] at h2
  | [], _, _ :: _, _, _ => rfl
  | _ :: _, [], _ :: _, h1, _ => by cases h1
  | a :: x, b :: y, c :: z, h1, h2 => by
    unfold Op.bytesLess at h1 h2 ⊢
    simp only [Bool.or_eq_true, Bool.and_eq_true, decide_eq_true_eq, beq_iff_eq, u8_lt] at h1 h2 ⊢
    rcases h1 with h1 | ⟨rfl, h1⟩
    · rcases h2 with h2 | ⟨rfl, h2⟩
      · left; omega
      · left; exact h1
    · rcases h2 with h2 | ⟨rfl, h2⟩
      · left; exact h2
      · right; exact ⟨rfl, bl_trans x y z h1 h2⟩
theorem lt_irr (p : List (BitVec 8)) : ltB p p = false := bl_irr _
theorem lt_tri (p q : List (BitVec 8)) (h : p ≠ q) : ltB q p = !ltB p q := bl_tri _ _ fun e => h (map_u8 e)
theorem lt_trans (p q r : List (BitVec 8)) (h1 : ltB p q = true) (h2 : ltB q r = true) : ltB p r = true := bl_trans _ _ _ h1 h2
theorem lr_irr : ∀ ps : List (List (BitVec 8)), lessR ps ps = false
  | [] => by simp [lessR]
  | p :: ps => by rw [lessR, if_pos rfl, lr_irr ps]
theorem lr_tri : ∀ ps qs : List (List (BitVec 8)), ps ≠ qs → lessR qs ps = !lessR ps qs
  | [], [], h => absurd rfl h
  | [], q :: qs, _ => by simp [lessR]
  | p :: ps, [], _ => by simp [lessR]
  | p :: ps, q :: qs, h => by
    rw [lessR, lessR]
    by_cases e : p = q
    · subst e
      rw [if_pos rfl, if_pos rfl, lr_tri ps qs (fun e2 => h (by rw [e2]))]
    · rw [if_neg e, if_neg (fun e2 => e e2.symm), lt_tri p q e]
theorem lr_trans : ∀ ps qs rs : List (List (BitVec 8)), lessR ps qs = true → lessR qs rs = true → lessR ps rs = true
  | [], qs, [], _, h2 => by cases qs <;> simp [lessR] at h2
  | [], _, _ :: _, _, _ => by simp [lessR]
  | _ :: _, [], _, h1, _ => by simp [lessR] at h1
  | p :: ps, q :: qs, [], _, h2 => by simp [lessR] at h2
  | p :: ps, q :: qs, r :: rs, h1, h2 => by
    rw [lessR] at h1 h2 ⊢
    by_cases e : p = q
    · subst e
      rw [if_pos rfl] at h1
      by_cases e2 : p = r
      · subst e2
        rw [if_pos rfl] at h2 ⊢
        exact lr_trans ps qs rs h1 h2
      · rw [if_neg e2] at h2 ⊢
        exact h2
    · rw [if_neg e] at h1
      by_cases e2 : q = r
      · subst e2
        rw [if_neg e]
        exact h1
      · rw [if_neg e2] at h2
        have e3 : p ≠ r := by
          rintro rfl
          have := lt_tri p q e
          rw [h1, h2] at this
          cases this
        rw [if_neg e3]
        exact lt_trans p q r h1 h2
theorem lr_pre : ∀ (ps : List (List (BitVec 8))) (r : List (BitVec 8)) (rs : List (List (BitVec 8))), lessR ps (ps ++ r :: rs) = true
  | [], _, _ => by simp [lessR]
  | p :: ps, r, rs => by rw [List.cons_append, lessR, if_pos rfl, lr_pre ps r rs]
theorem lr_between : ∀ (ps qs rs : List (List (BitVec 8))), lessR ps qs = true → lessR qs (ps ++ rs) = true → ps <+: qs
  | [], _, _, _, _ => List.nil_prefix
  | p :: ps, [], _, h1, _ => by simp [lessR] at h1
  | p :: ps, q :: qs, rs, h1, h2 => by
    rw [List.cons_append] at h2
    rw [lessR] at h1 h2
    by_cases e : p = q
    · subst e
      rw [if_pos rfl] at h1 h2
      exact (List.prefix_cons_inj p).2 (lr_between ps qs rs h1 h2)
    · rw [if_neg e] at h1
      rw [if_neg (fun e2 => e e2.symm)] at h2
      have := lt_tri p q e
      rw [h1, h2] at this
      cases this
/-- Is a name another, or below it? -/
def underF (A B : List (BitVec 8)) : Bool := rightB A && rightB B && decide (labF B <:+ labF A)
theorem split_app (X B : List (BitVec 8)) : splitDot (X ++ 46#8 :: B) = splitDot X ++ splitDot B := by
  induction X with
  | nil =>
    have h : splitDot (46#8 :: B) = [] :: splitDot B := by rw [splitDot, if_pos rfl]
    exact h
  | cons c l ih =>
    rw [List.cons_append, splitDot, splitDot, ih]
    by_cases hc : c = 46#8
    · rw [if_pos hc, if_pos hc]; rfl
    · rw [if_neg hc, if_neg hc]
      cases e : splitDot l with
      | nil => exact absurd e (splitDot_ne l)
      | cons p ps => rfl
theorem join_app (ys zs : List (List (BitVec 8))) (hy : ys ≠ []) (hz : zs ≠ []) : joinD (ys ++ zs) = joinD ys ++ 46#8 :: joinD zs := by
  induction ys with
  | nil => exact absurd rfl hy
  | cons y ys ih =>
    cases ys with
    | nil => rw [List.singleton_append, joinD_cons _ _ hz]; rfl
    | cons y2 ys => rw [List.cons_append, joinD_cons _ _ (by simp), ih (by simp), joinD_cons y (y2 :: ys) (by simp), List.append_assoc]; rfl
theorem right_text {L : List (BitVec 8)} (h : rightB L = true) (hd : L ≠ [46#8]) : L = joinD (labF L) ++ [46#8] ∧ labF L ≠ [] := by
  obtain ⟨h1, h2, _, _⟩ := right_split hd h
  have hj := join_split L
  rw [h1, join_snoc _ _ h2] at hj
  exact ⟨hj.symm, h2⟩
theorem lab_root : labF [46#8] = [] := by unfold labF; rw [if_pos rfl]
theorem lab_inj {A B : List (BitVec 8)} (ha : rightB A = true) (hb : rightB B = true) (h : labF A = labF B) : A = B := by
  by_cases h1 : A = [46#8]
  · by_cases h2 : B = [46#8]
    · rw [h1, h2]
    · have := (right_text hb h2).2
      rw [← h, h1, lab_root] at this
      exact absurd rfl this
  · by_cases h2 : B = [46#8]
    · have := (right_text ha h1).2
      rw [h, h2, lab_root] at this
      exact absurd rfl this
    · rw [(right_text ha h1).1, (right_text hb h2).1, h]
theorem suf_any (A B : List (BitVec 8)) : sufB A B = true ↔ B <:+ A := by
  unfold sufB
  rw [Bool.and_eq_true, decide_eq_true_eq, decide_eq_true_eq]
  constructor
  · rintro ⟨_, h2⟩
    exact ⟨A.take (A.length - B.length), by conv => rhs; rw [← List.take_append_drop (A.length - B.length) A]
                                            rw [h2]⟩
  · rintro ⟨M, rfl⟩
    refine ⟨by simp, ?_⟩
    simp
theorem under_suf {A B : List (BitVec 8)} (ha : rightB A = true) (hb : rightB B = true) (hB : B ≠ [46#8]) (hAB : A ≠ B) : sufB A (46#8 :: B) = decide (labF B <:+ labF A) := by
  rw [Bool.eq_iff_iff, decide_eq_true_eq, suf_any]
  obtain ⟨hbt, hbn⟩ := right_text hb hB
  constructor
  · rintro ⟨X, hX⟩
    have hA : A ≠ [46#8] := by
      rintro rfl
      have := congrArg List.length hX
      have hl : 0 < B.length := by rw [hbt]; simp
      simp at this
      omega
    obtain ⟨h1, _, _, _⟩ := right_split hA ha
    obtain ⟨h2, _, _, _⟩ := right_split hB hb
    rw [← hX, split_app, h2, ← List.append_assoc] at h1
    have h3 := (List.append_inj' h1 rfl).1
    rw [hX] at h3
    exact ⟨splitDot X, h3⟩
  · rintro ⟨ys, hy⟩
    have hA : A ≠ [46#8] := by
      rintro rfl
      rw [lab_root] at hy
      exact hbn (List.append_eq_nil_iff.1 hy).2
    obtain ⟨hat, _⟩ := right_text ha hA
    by_cases hys : ys = []
    · rw [hys, List.nil_append] at hy
      exact absurd (lab_inj ha hb hy.symm) hAB
    · rw [← hy, join_app _ _ hys hbn] at hat
      exact ⟨joinD ys, by rw [hat]; conv => lhs; rw [hbt]
                          simp⟩
theorem under_rev {A B : List (BitVec 8)} : labF B <:+ labF A ↔ (labF B).reverse <+: (labF A).reverse := List.reverse_prefix.symm
end Go.Proofs.YtddpfbeclmgndaaDoor
