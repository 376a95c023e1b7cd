/-
  SHA-256 AS PLAIN FUNCTIONS: words of bytes, the schedule, the rounds, the state behind some blocks, the padding, the sum.
-/
import Derived.Test.YtebhhonmpoeliaaDoorWords
namespace Go.Proofs.YtebhhonmpoeliaaDoor
set_option linter.unusedSimpArgs false
set_option linter.unusedVariables false
theorem bytes_apart (a b : BitVec 8) (s t : Nat) (h : t + 8 ≤ s) : (a.setWidth 32 <<< s) &&& (b.setWidth 32 <<< t) = 0#32 := by
  ext i hi
  simp only [BitVec.getElem_and, BitVec.getElem_shiftLeft, BitVec.getElem_zero, BitVec.getElem_setWidth]
  by_cases h1 : i < s
  · simp [h1]
  · have h2 : ¬ i < t := by omega
    simp [h1, h2]
    intro _
    exact BitVec.getLsbD_of_ge _ _ (by omega)
theorem or_apart (x y z : BitVec 32) (h1 : x &&& z = 0#32) (h2 : y &&& z = 0#32) : (x ||| y) &&& z = 0#32 := by
  ext i hi
  have e1 := congrArg (fun v : BitVec 32 => v.getLsbD i) h1
  have e2 := congrArg (fun v : BitVec 32 => v.getLsbD i) h2
  simp [BitVec.getLsbD_eq_getElem hi] at e1 e2 ⊢
  intro h3
  rcases h3 with h3 | h3
  · exact e1 h3
  · exact e2 h3
/-- Four bytes, the highest first. -/
def beW (a b c d : BitVec 8) : BitVec 32 := a.setWidth 32 <<< 24 ||| b.setWidth 32 <<< 16 ||| c.setWidth 32 <<< 8 ||| d.setWidth 32
theorem beW_add (a b c d : BitVec 8) : a.setWidth 32 <<< 24 + b.setWidth 32 <<< 16 + c.setWidth 32 <<< 8 + d.setWidth 32 = beW a b c d := by
  have p1 := bytes_apart a b 24 16 (by omega)
  have p2 := or_apart _ _ _ (bytes_apart a c 24 8 (by omega)) (bytes_apart b c 16 8 (by omega))
  have z : d.setWidth 32 <<< 0 = d.setWidth 32 := BitVec.shiftLeft_zero _
  have q1 := bytes_apart a d 24 0 (by omega)
  have q2 := bytes_apart b d 16 0 (by omega)
  have q3 := bytes_apart c d 8 0 (by omega)
  rw [z] at q1 q2 q3
  have p3 := or_apart _ _ _ (or_apart _ _ _ q1 q2) q3
  unfold beW
  rw [BitVec.add_eq_or_of_and_eq_zero _ _ p1, BitVec.add_eq_or_of_and_eq_zero _ _ p2, BitVec.add_eq_or_of_and_eq_zero _ _ p3]
/-- Turned to the right. -/
def rotR (x : BitVec 32) (n : Nat) : BitVec 32 := x >>> n ||| x <<< (32 - n)
theorem rotR_left (x : BitVec 32) (n : Nat) : x <<< (32 - n) ||| x >>> n = rotR x n := BitVec.or_comm _ _
def sig0 (x : BitVec 32) : BitVec 32 := rotR x 7 ^^^ rotR x 18 ^^^ x >>> 3
def sig1 (x : BitVec 32) : BitVec 32 := rotR x 17 ^^^ rotR x 19 ^^^ x >>> 10
/-- A block's words, one for each step. -/
def schedW (f : Nat → BitVec 8) (n : Nat) : BitVec 32 :=
  if h : n < 16 then beW (f (4 * n)) (f (4 * n + 1)) (f (4 * n + 2)) (f (4 * n + 3))
  else sig1 (schedW f (n - 2)) + schedW f (n - 7) + sig0 (schedW f (n - 15)) + schedW f (n - 16)
termination_by n
decreasing_by all_goals omega
theorem schedW_low (f : Nat → BitVec 8) {n : Nat} (h : n < 16) : schedW f n = beW (f (4 * n)) (f (4 * n + 1)) (f (4 * n + 2)) (f (4 * n + 3)) := by rw [schedW, dif_pos h]
theorem schedW_high (f : Nat → BitVec 8) {n : Nat} (h : 16 ≤ n) : schedW f n = sig1 (schedW f (n - 2)) + schedW f (n - 7) + sig0 (schedW f (n - 15)) + schedW f (n - 16) := by rw [schedW, dif_neg (by omega)]
theorem schedW_doc (f : Nat → BitVec 8) {n : Nat} (h : 16 ≤ n) : schedW f (n - 16) + sig0 (schedW f (n - 15)) + schedW f (n - 7) + sig1 (schedW f (n - 2)) = schedW f n := by
  rw [schedW_high f h]
  ac_rfl
theorem schedW_congr {f g : Nat → BitVec 8} (h : ∀ i, i < 64 → f i = g i) : ∀ n, n < 64 → schedW f n = schedW g n := by
  intro n
  induction n using Nat.strongRecOn with
  | _ n ih =>
    intro hn
    by_cases h16 : n < 16
    · rw [schedW_low f h16, schedW_low g h16, h _ (by omega), h _ (by omega), h _ (by omega), h _ (by omega)]
    · rw [schedW_high f (by omega), schedW_high g (by omega), ih (n - 2) (by omega) (by omega), ih (n - 7) (by omega) (by omega), ih (n - 15) (by omega) (by omega), ih (n - 16) (by omega) (by omega)]
/-- Eight words. -/
structure W8 where
  a : BitVec 32
  b : BitVec 32
  c : BitVec 32
  d : BitVec 32
  e : BitVec 32
  f : BitVec 32
  g : BitVec 32
  h : BitVec 32
def W8.one (v : W8) (k w : BitVec 32) : BitVec 32 := v.h + (rotR v.e 6 ^^^ rotR v.e 11 ^^^ rotR v.e 25) + ((v.e &&& v.f) ^^^ (~~~v.e &&& v.g)) + k + w
def W8.two (v : W8) : BitVec 32 := (rotR v.a 2 ^^^ rotR v.a 13 ^^^ rotR v.a 22) + ((v.a &&& v.b) ^^^ (v.a &&& v.c) ^^^ (v.b &&& v.c))
/-- One step. -/
def W8.step (v : W8) (k w : BitVec 32) : W8 := ⟨v.one k w + v.two, v.a, v.b, v.c, v.d + v.one k w, v.e, v.f, v.g⟩
def W8.add (v u : W8) : W8 := ⟨v.a + u.a, v.b + u.b, v.c + u.c, v.d + u.d, v.e + u.e, v.f + u.f, v.g + u.g, v.h + u.h⟩
/-- So many steps. -/
def W8.steps (k w : Nat → BitVec 32) (v : W8) : Nat → W8
  | 0 => v
  | n + 1 => (W8.steps k w v n).step (k n) (w n)
theorem W8.steps_congr {k w w' : Nat → BitVec 32} {v : W8} : ∀ n, (∀ i, i < n → w i = w' i) → W8.steps k w v n = W8.steps k w' v n
  | 0, _ => rfl
  | n + 1, h => by
    show (W8.steps k w v n).step (k n) (w n) = (W8.steps k w' v n).step (k n) (w' n)
    rw [W8.steps_congr n (fun i hi => h i (by omega)), h n (by omega)]
/-- Behind one block more. -/
def W8.turn (k : Nat → BitVec 32) (v : W8) (f : Nat → BitVec 8) : W8 := v.add (W8.steps k (schedW f) v 64)
theorem W8.turn_congr {k : Nat → BitVec 32} {v : W8} {f g : Nat → BitVec 8} (h : ∀ i, i < 64 → f i = g i) : v.turn k f = v.turn k g := by
  unfold W8.turn
  rw [W8.steps_congr 64 (fun i hi => schedW_congr h i hi)]
/-- Behind so many blocks of bytes. -/
def W8.blocks (k : Nat → BitVec 32) (v : W8) (f : Nat → BitVec 8) : Nat → W8
  | 0 => v
  | n + 1 => (W8.blocks k v f n).turn k (fun i => f (64 * n + i))
theorem W8.blocks_congr {k : Nat → BitVec 32} {v : W8} {f g : Nat → BitVec 8} : ∀ n, (∀ i, i < 64 * n → f i = g i) → W8.blocks k v f n = W8.blocks k v g n
  | 0, _ => rfl
  | n + 1, h => by
    show (W8.blocks k v f n).turn k _ = (W8.blocks k v g n).turn k _
    rw [W8.blocks_congr n (fun i hi => h i (by omega)), W8.turn_congr (fun i hi => h (64 * n + i) (by omega))]
/-- Bytes with what ends them: a one, noughts, and the count of bits in eight bytes. -/
def padded (f : Nat → BitVec 8) (n : Nat) (i : Nat) : BitVec 8 :=
  if i < n then f i else if i = n then 128#8 else if 64 * ((n + 8) / 64 + 1) - 8 ≤ i then BitVec.ofNat 8 (n * 8 / 256 ^ (64 * ((n + 8) / 64 + 1) - 1 - i)) else 0#8
theorem padded_congr {f g : Nat → BitVec 8} {n : Nat} (h : ∀ i, i < n → f i = g i) (i : Nat) : padded f n i = padded g n i := by
  unfold padded
  by_cases hi : i < n
  · rw [if_pos hi, if_pos hi, h i hi]
  · rw [if_neg hi, if_neg hi]
def W8.get (v : W8) : Nat → BitVec 32
  | 0 => v.a
  | 1 => v.b
  | 2 => v.c
  | 3 => v.d
  | 4 => v.e
  | 5 => v.f
  | 6 => v.g
  | _ => v.h
/-- The sum's bytes. -/
def sumB (k : Nat → BitVec 32) (v : W8) (f : Nat → BitVec 8) (n : Nat) (i : Nat) : BitVec 8 :=
  ((W8.blocks k v (padded f n) ((n + 8) / 64 + 1)).get (i / 4) >>> (24 - 8 * (i % 4))).setWidth 8
theorem sumB_congr {k : Nat → BitVec 32} {v : W8} {f g : Nat → BitVec 8} {n : Nat} (h : ∀ i, i < n → f i = g i) (i : Nat) : sumB k v f n i = sumB k v g n i := by
  unfold sumB
  rw [W8.blocks_congr _ (fun j _ => padded_congr h j)]
end Go.Proofs.YtebhhonmpoeliaaDoor
