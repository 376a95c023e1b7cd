/-
  THE CALLS OF PACKAGE curve, THIRD PART: a24, step, clamped, and what they are modulo p.
-/
import Derived.Test.YtmfiabkhnoimhaaCurveB
namespace Go.Proofs.Ytmfiabkhnoimhaa
open Go Go.RowKit Go.BigFrame
set_option linter.unusedVariables false
set_option linter.unusedSimpArgs false
def a24F (i : Nat) : BitVec 8 := if i = 0 then 65#8 else if i = 1 then 219#8 else if i = 2 then 1#8 else 0#8
def a24E : E5 := E5.of a24F
theorem b32_a24 : Value.agg #[.int .u8 65, .int .u8 219, .int .u8 1, .int .u8 0, .int .u8 0, .int .u8 0, .int .u8 0, .int .u8 0, .int .u8 0, .int .u8 0, .int .u8 0, .int .u8 0, .int .u8 0, .int .u8 0, .int .u8 0, .int .u8 0, .int .u8 0, .int .u8 0, .int .u8 0, .int .u8 0, .int .u8 0, .int .u8 0, .int .u8 0, .int .u8 0, .int .u8 0, .int .u8 0, .int .u8 0, .int .u8 0, .int .u8 0, .int .u8 0, .int .u8 0, .int .u8 0] = .agg (b32 a24F) := by kernel_rfl
theorem of_a24 (w : World) : Calls Try.prog 16 #[.agg #[.int .u8 65, .int .u8 219, .int .u8 1, .int .u8 0, .int .u8 0, .int .u8 0, .int .u8 0, .int .u8 0, .int .u8 0, .int .u8 0, .int .u8 0, .int .u8 0, .int .u8 0, .int .u8 0, .int .u8 0, .int .u8 0, .int .u8 0, .int .u8 0, .int .u8 0, .int .u8 0, .int .u8 0, .int .u8 0, .int .u8 0, .int .u8 0, .int .u8 0, .int .u8 0, .int .u8 0, .int .u8 0, .int .u8 0, .int .u8 0, .int .u8 0, .int .u8 0]] w fun e w' => e = .returned (.agg a24E.cells) ∧ Below w.heap.size w w' := by
  rw [b32_a24]; exact ofE_any _ w
set_option maxHeartbeats 4000000 in
theorem a24_any (w : World) : Calls Try.prog 31 #[] w fun e w' => e = .returned (.agg a24E.cells) ∧ Below w.heap.size w w' := by
  go_enter Try.func31, Try.ntmps31
  go_wp2_with fail
  refine (of_a24 _).mono ?_
  rintro e w1 ⟨rfl, hb⟩
  have hbel := (fin_below hb (B := w.heap.size) (w0 := w) (by simp; try omega) (by repeat (first | exact Below.refl _ _ | apply Below.drew | refine Below.alloc ?_ (by simp; try omega) _)))
  have hrow : w1.heap[w.heap.size]? = some (.cells #[.int .u64 0, .int .u64 0, .int .u64 0, .int .u64 0, .int .u64 0] 40 (0, 0)) := below_row (k := w.heap.size + 0) hb (by simp) (rows_alloc w [_] 0)
  clear hb
  generalize hz : a24E = z
  have Hz := Lib.hid hz
  clear hz
  go_wp2_with (refine wpList_store_row rfl 40 _ _ rfl w.heap.size _ _ z.cells rfl rfl hrow (Eq.trans (b := 5) rfl rfl) (by kernel_rfl) (by kernel_rfl) ?_; intro w2 hs2)
  exact ret_row w.heap.size _ 40 z.cells rfl _ rfl hs2.row Try.underlying40 rfl (by kernel_rfl) rfl ⟨by rw [Hz.out], hbel.trans (hs2.below _ (by omega))⟩
def stepE (s : L5) : L5 :=
  ⟨s.x1, ((s.x2.add s.z2).mul (s.x2.add s.z2)).mul ((s.x2.sub s.z2).mul (s.x2.sub s.z2)),
   (((s.x2.add s.z2).mul (s.x2.add s.z2)).sub ((s.x2.sub s.z2).mul (s.x2.sub s.z2))).mul (((s.x2.add s.z2).mul (s.x2.add s.z2)).add ((((s.x2.add s.z2).mul (s.x2.add s.z2)).sub ((s.x2.sub s.z2).mul (s.x2.sub s.z2))).mul a24E)),
   (((s.x3.sub s.z3).mul (s.x2.add s.z2)).add ((s.x3.add s.z3).mul (s.x2.sub s.z2))).mul (((s.x3.sub s.z3).mul (s.x2.add s.z2)).add ((s.x3.add s.z3).mul (s.x2.sub s.z2))),
   s.x1.mul ((((s.x3.sub s.z3).mul (s.x2.add s.z2)).sub ((s.x3.add s.z3).mul (s.x2.sub s.z2))).mul (((s.x3.sub s.z3).mul (s.x2.add s.z2)).sub ((s.x3.add s.z3).mul (s.x2.sub s.z2))))⟩
theorem step_any (s : L5) (w : World) : Calls Try.prog 18 #[.agg s.cells] w fun e w' => e = .returned (.agg (stepE s).cells) ∧ Below w.heap.size w w' :=
  step_core s _ _ _ _ _ _ _ _ _ _ _ _ _ _ _ _ _ _ _ (addE_any _ _) (subE_any _ _) (mulE_any _ _) (mulE_any _ _) (subE_any _ _) (addE_any _ _) (subE_any _ _) (mulE_any _ _) (mulE_any _ _) (addE_any _ _) (subE_any _ _) (mulE_any _ _) (mulE_any _ _) (mulE_any _ _) (mulE_any _ _) (mulE_any _ _) (addE_any _ _) (mulE_any _ _) a24_any w
/-- What five limbs are, modulo p. -/
structure Is (x : E5) (n : Cv.F) : Prop where
  ok : E5.Ok x
  val : x.val % E5.p = n.val
theorem Is.add {x y : E5} {m n : Cv.F} (h : Is x m) (g : Is y n) : Is (x.add y) (m + n) :=
  ⟨(E5.add_ok h.ok g.ok).1, by rw [(E5.add_ok h.ok g.ok).2, Nat.add_mod, h.val, g.val, Cv.val_add]⟩
theorem Is.mul {x y : E5} {m n : Cv.F} (h : Is x m) (g : Is y n) : Is (x.mul y) (m * n) :=
  ⟨(E5.mul_ok h.ok g.ok).1, by rw [(E5.mul_ok h.ok g.ok).2, Nat.mul_mod, h.val, g.val, Cv.val_mul]⟩
theorem sub_lem (z a b : Nat) (ha : a < E5.p) (hb : b < E5.p) (hz : z < E5.p) (h : (z + b) % E5.p = a) : z = (a + E5.p - b) % E5.p := by
  rw [p_lit] at *
  omega
theorem Is.sub {x y : E5} {m n : Cv.F} (h : Is x m) (g : Is y n) : Is (x.sub y) (m - n) := by
  refine ⟨(E5.sub_ok h.ok g.ok).1, ?_⟩
  rw [Cv.val_sub]
  refine sub_lem _ _ _ m.isLt n.isLt (Nat.mod_lt _ p_pos) ?_
  rw [← g.val, ← Nat.add_mod, (E5.sub_ok h.ok g.ok).2, h.val]
theorem Is.of (f : Nat → BitVec 8) : Is (E5.of f) (Cv.fn (E5.num f 32 % 2 ^ 255)) := ⟨of_ok f, by rw [E5.of_val, Cv.fn_val]⟩
theorem Is.one : Is oneE 1 := ⟨of_ok _, by unfold oneE; rw [E5.of_val, Cv.one_val]; decide +kernel⟩
theorem Is.zero : Is zeroE 0 := ⟨⟨by decide, by decide, by decide, by decide, by decide⟩, by rw [Cv.zero_val]; decide +kernel⟩
theorem Is.k24 : Is a24E Cv.k24 := ⟨of_ok _, by unfold a24E Cv.k24; rw [E5.of_val, Cv.fn_val]; decide +kernel⟩
structure IsL (l : L5) (x : Cv.F) (s : Cv.S4) : Prop where
  x1 : Is l.x1 x
  x2 : Is l.x2 s.a
  z2 : Is l.z2 s.b
  x3 : Is l.x3 s.c
  z3 : Is l.z3 s.d
theorem IsL.step {l : L5} {x : Cv.F} {s : Cv.S4} (h : IsL l x s) : IsL (stepE l) x (Cv.step x s) := by
  obtain ⟨h1, h2, h3, h4, h5⟩ := h
  have A := h2.add h3
  have B := h2.sub h3
  have AA := A.mul A
  have BB := B.mul B
  have E := AA.sub BB
  have C := h4.add h5
  have D := h4.sub h5
  have DA := D.mul A
  have CB := C.mul B
  have Z := E.mul (AA.add (E.mul Is.k24))
  have e : ∀ a b c : Cv.F, a * (b + a * c) = a * (b + c * a) := fun a b c => by grind
  rw [e] at Z
  have X2 := AA.mul BB
  have X3 := (DA.add CB).mul (DA.add CB)
  have Z3 := h1.mul ((DA.sub CB).mul (DA.sub CB))
  clear A B AA BB E C D DA CB e
  unfold stepE Cv.step
  refine ⟨?_, ?_, ?_, ?_, ?_⟩
  · dsimp only; exact h1
  · dsimp only; exact X2
  · dsimp only; exact Z
  · dsimp only; exact X3
  · dsimp only; exact Z3
def swapL (on : Bool) (s : L5) : L5 := ⟨s.x1, pickE on s.x2 s.x3, pickE on s.z2 s.z3, pickE on s.x3 s.x2, pickE on s.z3 s.z2⟩
theorem IsL.swap {l : L5} {x : Cv.F} {s : Cv.S4} (h : IsL l x s) (on : Bool) : IsL (swapL on l) x (Cv.sw on s) := by
  obtain ⟨h1, h2, h3, h4, h5⟩ := h
  cases on
  · exact ⟨h1, h2, h3, h4, h5⟩
  · exact ⟨h1, h4, h5, h2, h3⟩
/-- Was the bit ahead set? -/
def prevB (bits : Nat → Bool) : Nat → Bool
  | 0 => false
  | k + 1 => bits (254 - k)
def ldE (x : E5) (bits : Nat → Bool) : Nat → L5
  | 0 => ⟨x, oneE, zeroE, x, oneE⟩
  | k + 1 => stepE (swapL (bits (254 - k) != prevB bits k) (ldE x bits k))
theorem ld_is {x : E5} {n : Cv.F} (h : Is x n) (bits : Nat → Bool) : ∀ k, IsL (ldE x bits k) n (Cv.sw (prevB bits k) (Cv.st n bits k))
  | 0 => ⟨h, Is.one, Is.zero, h, Is.one⟩
  | k + 1 => by
    have h1 := ((ld_is h bits k).swap (bits (254 - k) != prevB bits k)).step
    rw [Cv.sw_ne] at h1
    have e : Cv.sw (prevB bits (k + 1)) (Cv.st n bits (k + 1)) = Cv.step n (Cv.sw (bits (254 - k)) (Cv.st n bits k)) := by
      show Cv.sw (bits (254 - k)) (Cv.sw (bits (254 - k)) _) = _
      rw [Cv.sw_sw]
    rw [e]; exact h1
theorem ld_end {x : E5} {n : Cv.F} (h : Is x n) (bits : Nat → Bool) (h0 : bits 0 = false) : Is ((ldE x bits 255).x2.mul (ldE x bits 255).z2.inv) (Cv.out n bits) := by
  have h1 := ld_is h bits 255
  have e : prevB bits 255 = false := h0
  rw [e] at h1
  have es : ∀ s, Cv.sw false s = s := fun s => rfl
  rw [es] at h1
  obtain ⟨_, h2, h3, _, _⟩ := h1
  refine h2.mul ⟨(E5.inv_ok h3.ok).1, ?_⟩
  show _ = (Cv.inv (Cv.st n bits 255).b).val
  rw [inv_num h3.ok _ h3.val]
  unfold Cv.inv
  rw [Cv.fn_val, Nat.mod_eq_of_lt (invN_lt _)]
def clampF (f : Nat → BitVec 8) (i : Nat) : BitVec 8 := if i = 0 then f 0 &&& 248#8 else if i = 31 then f 31 &&& 127#8 ||| 64#8 else f i
theorem all8 (p : BitVec 8 → Bool) (h : ∀ n, n < 256 → p (BitVec.ofNat 8 n) = true) (x : BitVec 8) : p x = true := by
  have := h x.toNat x.isLt
  rwa [BitVec.ofNat_toNat, BitVec.setWidth_eq] at this
theorem lsb8 (x : BitVec 8) (j : Nat) (h : j < 8) : (x >>> j &&& 1#8 = 1#8) ↔ x.getLsbD j = true := by
  constructor
  · intro e
    have := congrArg (fun y : BitVec 8 => y.getLsbD 0) e
    simpa using this
  · intro e
    apply BitVec.eq_of_getLsbD_eq
    intro i hi
    rcases Nat.eq_zero_or_pos i with h0 | h0
    · subst h0; simpa using e
    · have h1 : (1#8).getLsbD i = false := by
        have : ∀ i, i < 8 → 0 < i → (1#8).getLsbD i = false := by decide
        exact this i hi h0
      simp [h1]
theorem clamp_bit (f : Nat → BitVec 8) (j : Nat) (hj : j ≤ 254) : (clampF f (j / 8)).getLsbD (j % 8) = Cv.bit f j := by
  unfold clampF Cv.bit
  have h7 : ∀ (x : BitVec 8) (i : Nat), i < 8 → (x &&& 248#8).getLsbD i = (decide (3 ≤ i) && x.getLsbD i) := by
    intro x i hi
    have : ∀ i, i < 8 → (248#8).getLsbD i = decide (3 ≤ i) := by decide
    rw [BitVec.getLsbD_and, this i hi, Bool.and_comm]
  have h6 : ∀ (x : BitVec 8) (i : Nat), i < 7 → (x &&& 127#8 ||| 64#8).getLsbD i = (decide (i = 6) || x.getLsbD i) := by
    intro x i hi
    have e1 : ∀ i, i < 7 → (127#8).getLsbD i = true := by decide
    have e2 : ∀ i, i < 7 → (64#8).getLsbD i = decide (i = 6) := by decide
    rw [BitVec.getLsbD_or, BitVec.getLsbD_and, e1 i hi, e2 i hi, Bool.and_true, Bool.or_comm]
  by_cases h0 : j / 8 = 0
  · rw [if_pos h0, h7 _ _ (by omega), h0]
    have e1 : decide (3 ≤ j % 8) = !decide (j < 3) := by
      rw [← decide_not]; exact decide_eq_decide.2 (by omega)
    have e2 : decide (j = 254) = false := decide_eq_false (by omega)
    rw [e1, e2, Bool.false_or]
  · rw [if_neg h0]
    have e3 : decide (j < 3) = false := decide_eq_false (by omega)
    rw [e3, Bool.not_false, Bool.true_and]
    by_cases h1 : j / 8 = 31
    · rw [if_pos h1, h6 _ _ (by omega), h1]
      have : decide (j % 8 = 6) = decide (j = 254) := decide_eq_decide.2 (by omega)
      rw [this]
    · rw [if_neg h1]
      have e2 : decide (j = 254) = false := decide_eq_false (by omega)
      rw [e2, Bool.false_or]
theorem bit_zero (f : Nat → BitVec 8) : Cv.bit f 0 = false := by unfold Cv.bit; rfl
end Go.Proofs.Ytmfiabkhnoimhaa
