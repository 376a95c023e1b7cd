/-
  WORDS OF FIXED WIDTHS IN A WALK: a slot that holds a word says 'nB x', x a BitVec: the walk's steps on such slots come out in BitVec's own operations.
-/
import Derived.WalkKit
import Derived.WalkSpells
import Derived.WalkLawsBesides
import Derived.LoopN
import Derived.StillTailTactics
import Derived.Lib.Hide
import Derived.IntWalk
namespace Go.Proofs.YtddpfbeclmgndaaDoor
open Go Go.RowKit


def n8 (x : BitVec 8) : Int := (x.toNat : Int)
def ix8 (x : BitVec 8) : Nat := x.toNat
theorem n8_nonneg (x : BitVec 8) : 0 ≤ n8 x := by unfold n8; omega
theorem n8_lt (x : BitVec 8) : n8 x < 256 := by unfold n8; have := x.isLt; omega
theorem n8_le (x : BitVec 8) : n8 x ≤ 255 := by unfold n8; have := x.isLt; omega
theorem n8_toNat (x : BitVec 8) : (n8 x).toNat = ix8 x := by unfold n8 ix8; simp
theorem n8_ix (x : BitVec 8) : n8 x = (ix8 x : Int) := rfl
theorem ix8_lt (x : BitVec 8) : ix8 x < 256 := x.isLt
theorem n8_inj (x y : BitVec 8) : (n8 x = n8 y) = (x = y) := by
  unfold n8; apply propext; constructor
  · intro h; apply BitVec.eq_of_toNat_eq; omega
  · intro h; rw [h]
theorem ofInt_n8 (x : BitVec 8) : BitVec.ofInt 8 (n8 x) = x := by unfold n8; simp
theorem ofInt_lit8 (c : Nat) : BitVec.ofInt 8 (c : Int) = BitVec.ofNat 8 c := by simp
theorem ofIntSub8 (a b : Int) : BitVec.ofInt 8 (a - b) = BitVec.ofInt 8 a - BitVec.ofInt 8 b := by
  rw [Int.sub_eq_add_neg, BitVec.ofInt_add, BitVec.ofInt_neg, ← BitVec.sub_eq_add_neg]
theorem wrap_n8 (m : Int) : IntKind.wrap .u8 m = n8 (BitVec.ofInt 8 m) := by
  simp only [IntKind.wrap, IntKind.bits, IntKind.signed, n8, BitVec.toNat_ofInt]
  simp
  omega
theorem add_n8 (t : TypeId) (x y : BitVec 8) : binOp .add t (.int .u8 (n8 x)) (.int .u8 (n8 y)) = pure (.int .u8 (n8 (x + y))) := by
  simp only [binOp_add, Op.intArith, wrap_n8, BitVec.ofInt_add, ofInt_n8]
theorem add_n8_l (t : TypeId) (x : BitVec 8) (c : Nat) : binOp .add t (.int .u8 (n8 x)) (.int .u8 (no_index (OfNat.ofNat c))) = pure (.int .u8 (n8 (x + BitVec.ofNat 8 c))) := by
  have h : (OfNat.ofNat c : Int) = ((c : Nat) : Int) := rfl
  rw [h]; simp only [binOp_add, Op.intArith, wrap_n8, BitVec.ofInt_add, ofInt_n8, ofInt_lit8]
theorem add_l_n8 (t : TypeId) (x : BitVec 8) (c : Nat) : binOp .add t (.int .u8 (no_index (OfNat.ofNat c))) (.int .u8 (n8 x)) = pure (.int .u8 (n8 (BitVec.ofNat 8 c + x))) := by
  have h : (OfNat.ofNat c : Int) = ((c : Nat) : Int) := rfl
  rw [h]; simp only [binOp_add, Op.intArith, wrap_n8, BitVec.ofInt_add, ofInt_n8, ofInt_lit8]
attribute [go_sem high] add_n8 add_n8_l add_l_n8
theorem sub_n8 (t : TypeId) (x y : BitVec 8) : binOp .sub t (.int .u8 (n8 x)) (.int .u8 (n8 y)) = pure (.int .u8 (n8 (x - y))) := by
  simp only [binOp_sub, Op.intArith, wrap_n8, ofIntSub8, ofInt_n8]
theorem sub_n8_l (t : TypeId) (x : BitVec 8) (c : Nat) : binOp .sub t (.int .u8 (n8 x)) (.int .u8 (no_index (OfNat.ofNat c))) = pure (.int .u8 (n8 (x - BitVec.ofNat 8 c))) := by
  have h : (OfNat.ofNat c : Int) = ((c : Nat) : Int) := rfl
  rw [h]; simp only [binOp_sub, Op.intArith, wrap_n8, ofIntSub8, ofInt_n8, ofInt_lit8]
theorem sub_l_n8 (t : TypeId) (x : BitVec 8) (c : Nat) : binOp .sub t (.int .u8 (no_index (OfNat.ofNat c))) (.int .u8 (n8 x)) = pure (.int .u8 (n8 (BitVec.ofNat 8 c - x))) := by
  have h : (OfNat.ofNat c : Int) = ((c : Nat) : Int) := rfl
  rw [h]; simp only [binOp_sub, Op.intArith, wrap_n8, ofIntSub8, ofInt_n8, ofInt_lit8]
attribute [go_sem high] sub_n8 sub_n8_l sub_l_n8
theorem mul_n8 (t : TypeId) (x y : BitVec 8) : binOp .mul t (.int .u8 (n8 x)) (.int .u8 (n8 y)) = pure (.int .u8 (n8 (x * y))) := by
  simp only [binOp_mul, Op.intArith, wrap_n8, BitVec.ofInt_mul, ofInt_n8]
theorem mul_n8_l (t : TypeId) (x : BitVec 8) (c : Nat) : binOp .mul t (.int .u8 (n8 x)) (.int .u8 (no_index (OfNat.ofNat c))) = pure (.int .u8 (n8 (x * BitVec.ofNat 8 c))) := by
  have h : (OfNat.ofNat c : Int) = ((c : Nat) : Int) := rfl
  rw [h]; simp only [binOp_mul, Op.intArith, wrap_n8, BitVec.ofInt_mul, ofInt_n8, ofInt_lit8]
theorem mul_l_n8 (t : TypeId) (x : BitVec 8) (c : Nat) : binOp .mul t (.int .u8 (no_index (OfNat.ofNat c))) (.int .u8 (n8 x)) = pure (.int .u8 (n8 (BitVec.ofNat 8 c * x))) := by
  have h : (OfNat.ofNat c : Int) = ((c : Nat) : Int) := rfl
  rw [h]; simp only [binOp_mul, Op.intArith, wrap_n8, BitVec.ofInt_mul, ofInt_n8, ofInt_lit8]
attribute [go_sem high] mul_n8 mul_n8_l mul_l_n8
theorem and_n8 (t : TypeId) (x y : BitVec 8) : binOp .and t (.int .u8 (n8 x)) (.int .u8 (n8 y)) = pure (.int .u8 (n8 (x &&& y))) := by
  have h : ∀ a b : BitVec 8, bits .and .u8 (n8 a) (n8 b) = n8 (a &&& b) := fun a b => by
    show IntKind.wrap .u8 _ = _
    rw [show BitVec.ofInt (IntKind.bits .u8) (n8 a) = a from ofInt_n8 a, show BitVec.ofInt (IntKind.bits .u8) (n8 b) = b from ofInt_n8 b, wrap_n8]
    exact congrArg n8 (ofInt_n8 _)
  simp only [binOp_and, intBits_and, h]
theorem and_n8_l (t : TypeId) (x : BitVec 8) (c : Nat) : binOp .and t (.int .u8 (n8 x)) (.int .u8 (no_index (OfNat.ofNat c))) = pure (.int .u8 (n8 (x &&& BitVec.ofNat 8 c))) := by
  have h : bits .and .u8 (n8 x) ((c : Nat) : Int) = n8 (x &&& BitVec.ofNat 8 c) := by
    show IntKind.wrap .u8 _ = _
    rw [show BitVec.ofInt (IntKind.bits .u8) (n8 x) = x from ofInt_n8 x, show BitVec.ofInt (IntKind.bits .u8) ((c : Nat) : Int) = BitVec.ofNat 8 c from ofInt_lit8 c, wrap_n8]
    exact congrArg n8 (ofInt_n8 _)
  rw [show (OfNat.ofNat c : Int) = ((c : Nat) : Int) from rfl]
  simp only [binOp_and, intBits_and, h]
theorem and_l_n8 (t : TypeId) (x : BitVec 8) (c : Nat) : binOp .and t (.int .u8 (no_index (OfNat.ofNat c))) (.int .u8 (n8 x)) = pure (.int .u8 (n8 (BitVec.ofNat 8 c &&& x))) := by
  have h : bits .and .u8 ((c : Nat) : Int) (n8 x) = n8 (BitVec.ofNat 8 c &&& x) := by
    show IntKind.wrap .u8 _ = _
    rw [show BitVec.ofInt (IntKind.bits .u8) (n8 x) = x from ofInt_n8 x, show BitVec.ofInt (IntKind.bits .u8) ((c : Nat) : Int) = BitVec.ofNat 8 c from ofInt_lit8 c, wrap_n8]
    exact congrArg n8 (ofInt_n8 _)
  rw [show (OfNat.ofNat c : Int) = ((c : Nat) : Int) from rfl]
  simp only [binOp_and, intBits_and, h]
attribute [go_sem high] and_n8 and_n8_l and_l_n8
theorem or_n8 (t : TypeId) (x y : BitVec 8) : binOp .or t (.int .u8 (n8 x)) (.int .u8 (n8 y)) = pure (.int .u8 (n8 (x ||| y))) := by
  have h : ∀ a b : BitVec 8, bits .or .u8 (n8 a) (n8 b) = n8 (a ||| b) := fun a b => by
    show IntKind.wrap .u8 _ = _
    rw [show BitVec.ofInt (IntKind.bits .u8) (n8 a) = a from ofInt_n8 a, show BitVec.ofInt (IntKind.bits .u8) (n8 b) = b from ofInt_n8 b, wrap_n8]
    exact congrArg n8 (ofInt_n8 _)
  simp only [binOp_or, intBits_or, h]
theorem or_n8_l (t : TypeId) (x : BitVec 8) (c : Nat) : binOp .or t (.int .u8 (n8 x)) (.int .u8 (no_index (OfNat.ofNat c))) = pure (.int .u8 (n8 (x ||| BitVec.ofNat 8 c))) := by
  have h : bits .or .u8 (n8 x) ((c : Nat) : Int) = n8 (x ||| BitVec.ofNat 8 c) := by
    show IntKind.wrap .u8 _ = _
    rw [show BitVec.ofInt (IntKind.bits .u8) (n8 x) = x from ofInt_n8 x, show BitVec.ofInt (IntKind.bits .u8) ((c : Nat) : Int) = BitVec.ofNat 8 c from ofInt_lit8 c, wrap_n8]
    exact congrArg n8 (ofInt_n8 _)
  rw [show (OfNat.ofNat c : Int) = ((c : Nat) : Int) from rfl]
  simp only [binOp_or, intBits_or, h]
theorem or_l_n8 (t : TypeId) (x : BitVec 8) (c : Nat) : binOp .or t (.int .u8 (no_index (OfNat.ofNat c))) (.int .u8 (n8 x)) = pure (.int .u8 (n8 (BitVec.ofNat 8 c ||| x))) := by
  have h : bits .or .u8 ((c : Nat) : Int) (n8 x) = n8 (BitVec.ofNat 8 c ||| x) := by
    show IntKind.wrap .u8 _ = _
    rw [show BitVec.ofInt (IntKind.bits .u8) (n8 x) = x from ofInt_n8 x, show BitVec.ofInt (IntKind.bits .u8) ((c : Nat) : Int) = BitVec.ofNat 8 c from ofInt_lit8 c, wrap_n8]
    exact congrArg n8 (ofInt_n8 _)
  rw [show (OfNat.ofNat c : Int) = ((c : Nat) : Int) from rfl]
  simp only [binOp_or, intBits_or, h]
attribute [go_sem high] or_n8 or_n8_l or_l_n8
theorem xor_n8 (t : TypeId) (x y : BitVec 8) : binOp .xor t (.int .u8 (n8 x)) (.int .u8 (n8 y)) = pure (.int .u8 (n8 (x ^^^ y))) := by
  have h : ∀ a b : BitVec 8, bits .xor .u8 (n8 a) (n8 b) = n8 (a ^^^ b) := fun a b => by
    show IntKind.wrap .u8 _ = _
    rw [show BitVec.ofInt (IntKind.bits .u8) (n8 a) = a from ofInt_n8 a, show BitVec.ofInt (IntKind.bits .u8) (n8 b) = b from ofInt_n8 b, wrap_n8]
    exact congrArg n8 (ofInt_n8 _)
  simp only [binOp_xor, intBits_xor, h]
theorem xor_n8_l (t : TypeId) (x : BitVec 8) (c : Nat) : binOp .xor t (.int .u8 (n8 x)) (.int .u8 (no_index (OfNat.ofNat c))) = pure (.int .u8 (n8 (x ^^^ BitVec.ofNat 8 c))) := by
  have h : bits .xor .u8 (n8 x) ((c : Nat) : Int) = n8 (x ^^^ BitVec.ofNat 8 c) := by
    show IntKind.wrap .u8 _ = _
    rw [show BitVec.ofInt (IntKind.bits .u8) (n8 x) = x from ofInt_n8 x, show BitVec.ofInt (IntKind.bits .u8) ((c : Nat) : Int) = BitVec.ofNat 8 c from ofInt_lit8 c, wrap_n8]
    exact congrArg n8 (ofInt_n8 _)
  rw [show (OfNat.ofNat c : Int) = ((c : Nat) : Int) from rfl]
  simp only [binOp_xor, intBits_xor, h]
theorem xor_l_n8 (t : TypeId) (x : BitVec 8) (c : Nat) : binOp .xor t (.int .u8 (no_index (OfNat.ofNat c))) (.int .u8 (n8 x)) = pure (.int .u8 (n8 (BitVec.ofNat 8 c ^^^ x))) := by
  have h : bits .xor .u8 ((c : Nat) : Int) (n8 x) = n8 (BitVec.ofNat 8 c ^^^ x) := by
    show IntKind.wrap .u8 _ = _
    rw [show BitVec.ofInt (IntKind.bits .u8) (n8 x) = x from ofInt_n8 x, show BitVec.ofInt (IntKind.bits .u8) ((c : Nat) : Int) = BitVec.ofNat 8 c from ofInt_lit8 c, wrap_n8]
    exact congrArg n8 (ofInt_n8 _)
  rw [show (OfNat.ofNat c : Int) = ((c : Nat) : Int) from rfl]
  simp only [binOp_xor, intBits_xor, h]
attribute [go_sem high] xor_n8 xor_n8_l xor_l_n8
theorem andNot_n8 (t : TypeId) (x y : BitVec 8) : binOp .andNot t (.int .u8 (n8 x)) (.int .u8 (n8 y)) = pure (.int .u8 (n8 (x &&& ~~~y))) := by
  have h : ∀ a b : BitVec 8, bits .andNot .u8 (n8 a) (n8 b) = n8 (a &&& ~~~b) := fun a b => by
    show IntKind.wrap .u8 _ = _
    rw [show BitVec.ofInt (IntKind.bits .u8) (n8 a) = a from ofInt_n8 a, show BitVec.ofInt (IntKind.bits .u8) (n8 b) = b from ofInt_n8 b, wrap_n8]
    exact congrArg n8 (ofInt_n8 _)
  simp only [binOp_andNot, intBits_andNot, h]
theorem andNot_n8_l (t : TypeId) (x : BitVec 8) (c : Nat) : binOp .andNot t (.int .u8 (n8 x)) (.int .u8 (no_index (OfNat.ofNat c))) = pure (.int .u8 (n8 (x &&& ~~~BitVec.ofNat 8 c))) := by
  have h : bits .andNot .u8 (n8 x) ((c : Nat) : Int) = n8 (x &&& ~~~BitVec.ofNat 8 c) := by
    show IntKind.wrap .u8 _ = _
    rw [show BitVec.ofInt (IntKind.bits .u8) (n8 x) = x from ofInt_n8 x, show BitVec.ofInt (IntKind.bits .u8) ((c : Nat) : Int) = BitVec.ofNat 8 c from ofInt_lit8 c, wrap_n8]
    exact congrArg n8 (ofInt_n8 _)
  rw [show (OfNat.ofNat c : Int) = ((c : Nat) : Int) from rfl]
  simp only [binOp_andNot, intBits_andNot, h]
theorem andNot_l_n8 (t : TypeId) (x : BitVec 8) (c : Nat) : binOp .andNot t (.int .u8 (no_index (OfNat.ofNat c))) (.int .u8 (n8 x)) = pure (.int .u8 (n8 (BitVec.ofNat 8 c &&& ~~~x))) := by
  have h : bits .andNot .u8 ((c : Nat) : Int) (n8 x) = n8 (BitVec.ofNat 8 c &&& ~~~x) := by
    show IntKind.wrap .u8 _ = _
    rw [show BitVec.ofInt (IntKind.bits .u8) (n8 x) = x from ofInt_n8 x, show BitVec.ofInt (IntKind.bits .u8) ((c : Nat) : Int) = BitVec.ofNat 8 c from ofInt_lit8 c, wrap_n8]
    exact congrArg n8 (ofInt_n8 _)
  rw [show (OfNat.ofNat c : Int) = ((c : Nat) : Int) from rfl]
  simp only [binOp_andNot, intBits_andNot, h]
attribute [go_sem high] andNot_n8 andNot_n8_l andNot_l_n8
theorem shl_n8 (t : TypeId) (yk : IntKind) (x : BitVec 8) (y : Int) (h : 0 ≤ y) : binOp .shl t (.int .u8 (n8 x)) (.int yk y) = pure (.int .u8 (n8 (x <<< y.toNat))) := by
  rw [binOp_shl, shift_shl_any _ _ _ _ h, wrap_n8]
  congr 3
  apply BitVec.eq_of_toNat_eq
  simp only [BitVec.toNat_ofInt, BitVec.toNat_shiftLeft, n8, IntKind.bits, Nat.shiftLeft_eq]
  have e : ((x.toNat : Int) * 2 ^ min y.toNat 8) = ((x.toNat * 2 ^ min y.toNat 8 : Nat) : Int) := by push_cast; rfl
  rw [e, show ((2 ^ 8 : Nat) : Int) = ((256 : Nat) : Int) from rfl, ← Int.natCast_emod, Int.toNat_natCast, show (2 : Nat) ^ 8 = 256 from rfl]
  rcases Nat.le_total y.toNat 8 with h1 | h1
  · rw [Nat.min_eq_left h1]
  · rw [Nat.min_eq_right h1]
    obtain ⟨d, hd⟩ := Nat.exists_eq_add_of_le h1
    rw [hd, Nat.pow_add, ← Nat.mul_assoc, show (2 : Nat) ^ 8 = 256 from rfl]
    rw [Nat.mul_mod_left, show x.toNat * 256 * 2 ^ d = (x.toNat * 2 ^ d) * 256 from by rw [Nat.mul_assoc, Nat.mul_comm 256, ← Nat.mul_assoc], Nat.mul_mod_left]
theorem shr_n8 (t : TypeId) (yk : IntKind) (x : BitVec 8) (y : Int) (h : 0 ≤ y) : binOp .shr t (.int .u8 (n8 x)) (.int yk y) = pure (.int .u8 (n8 (x >>> y.toNat))) := by
  rw [binOp_shr, shift_shr_any _ _ _ _ h]
  congr 2
  simp only [BitVec.toNat_ushiftRight, n8, IntKind.bits, Nat.shiftRight_eq_div_pow]
  have e : ((x.toNat : Int) / 2 ^ min y.toNat 8) = ((x.toNat / 2 ^ min y.toNat 8 : Nat) : Int) := by push_cast; rfl
  rw [e]
  congr 1
  rcases Nat.le_total y.toNat 8 with h1 | h1
  · rw [Nat.min_eq_left h1]
  · rw [Nat.min_eq_right h1]
    have hx := x.isLt
    rw [Nat.div_eq_of_lt (by simpa using hx), Nat.div_eq_of_lt (Nat.lt_of_lt_of_le hx (Nat.pow_le_pow_right (by decide) h1))]
attribute [go_sem high] shl_n8 shr_n8
attribute [go_sem] n8_toNat

def n16 (x : BitVec 16) : Int := (x.toNat : Int)
def ix16 (x : BitVec 16) : Nat := x.toNat
theorem n16_nonneg (x : BitVec 16) : 0 ≤ n16 x := by unfold n16; omega
theorem n16_lt (x : BitVec 16) : n16 x < 65536 := by unfold n16; have := x.isLt; omega
theorem n16_le (x : BitVec 16) : n16 x ≤ 65535 := by unfold n16; have := x.isLt; omega
theorem n16_toNat (x : BitVec 16) : (n16 x).toNat = ix16 x := by unfold n16 ix16; simp
theorem n16_ix (x : BitVec 16) : n16 x = (ix16 x : Int) := rfl
theorem ix16_lt (x : BitVec 16) : ix16 x < 65536 := x.isLt
theorem n16_inj (x y : BitVec 16) : (n16 x = n16 y) = (x = y) := by
  unfold n16; apply propext; constructor
  · intro h; apply BitVec.eq_of_toNat_eq; omega
  · intro h; rw [h]
theorem ofInt_n16 (x : BitVec 16) : BitVec.ofInt 16 (n16 x) = x := by unfold n16; simp
theorem ofInt_lit16 (c : Nat) : BitVec.ofInt 16 (c : Int) = BitVec.ofNat 16 c := by simp
theorem ofIntSub16 (a b : Int) : BitVec.ofInt 16 (a - b) = BitVec.ofInt 16 a - BitVec.ofInt 16 b := by
  rw [Int.sub_eq_add_neg, BitVec.ofInt_add, BitVec.ofInt_neg, ← BitVec.sub_eq_add_neg]
theorem wrap_n16 (m : Int) : IntKind.wrap .u16 m = n16 (BitVec.ofInt 16 m) := by
  simp only [IntKind.wrap, IntKind.bits, IntKind.signed, n16, BitVec.toNat_ofInt]
  simp
  omega
theorem add_n16 (t : TypeId) (x y : BitVec 16) : binOp .add t (.int .u16 (n16 x)) (.int .u16 (n16 y)) = pure (.int .u16 (n16 (x + y))) := by
  simp only [binOp_add, Op.intArith, wrap_n16, BitVec.ofInt_add, ofInt_n16]
theorem add_n16_l (t : TypeId) (x : BitVec 16) (c : Nat) : binOp .add t (.int .u16 (n16 x)) (.int .u16 (no_index (OfNat.ofNat c))) = pure (.int .u16 (n16 (x + BitVec.ofNat 16 c))) := by
  have h : (OfNat.ofNat c : Int) = ((c : Nat) : Int) := rfl
  rw [h]; simp only [binOp_add, Op.intArith, wrap_n16, BitVec.ofInt_add, ofInt_n16, ofInt_lit16]
theorem add_l_n16 (t : TypeId) (x : BitVec 16) (c : Nat) : binOp .add t (.int .u16 (no_index (OfNat.ofNat c))) (.int .u16 (n16 x)) = pure (.int .u16 (n16 (BitVec.ofNat 16 c + x))) := by
  have h : (OfNat.ofNat c : Int) = ((c : Nat) : Int) := rfl
  rw [h]; simp only [binOp_add, Op.intArith, wrap_n16, BitVec.ofInt_add, ofInt_n16, ofInt_lit16]
attribute [go_sem high] add_n16 add_n16_l add_l_n16
theorem sub_n16 (t : TypeId) (x y : BitVec 16) : binOp .sub t (.int .u16 (n16 x)) (.int .u16 (n16 y)) = pure (.int .u16 (n16 (x - y))) := by
  simp only [binOp_sub, Op.intArith, wrap_n16, ofIntSub16, ofInt_n16]
theorem sub_n16_l (t : TypeId) (x : BitVec 16) (c : Nat) : binOp .sub t (.int .u16 (n16 x)) (.int .u16 (no_index (OfNat.ofNat c))) = pure (.int .u16 (n16 (x - BitVec.ofNat 16 c))) := by
  have h : (OfNat.ofNat c : Int) = ((c : Nat) : Int) := rfl
  rw [h]; simp only [binOp_sub, Op.intArith, wrap_n16, ofIntSub16, ofInt_n16, ofInt_lit16]
theorem sub_l_n16 (t : TypeId) (x : BitVec 16) (c : Nat) : binOp .sub t (.int .u16 (no_index (OfNat.ofNat c))) (.int .u16 (n16 x)) = pure (.int .u16 (n16 (BitVec.ofNat 16 c - x))) := by
  have h : (OfNat.ofNat c : Int) = ((c : Nat) : Int) := rfl
  rw [h]; simp only [binOp_sub, Op.intArith, wrap_n16, ofIntSub16, ofInt_n16, ofInt_lit16]
attribute [go_sem high] sub_n16 sub_n16_l sub_l_n16
theorem mul_n16 (t : TypeId) (x y : BitVec 16) : binOp .mul t (.int .u16 (n16 x)) (.int .u16 (n16 y)) = pure (.int .u16 (n16 (x * y))) := by
  simp only [binOp_mul, Op.intArith, wrap_n16, BitVec.ofInt_mul, ofInt_n16]
theorem mul_n16_l (t : TypeId) (x : BitVec 16) (c : Nat) : binOp .mul t (.int .u16 (n16 x)) (.int .u16 (no_index (OfNat.ofNat c))) = pure (.int .u16 (n16 (x * BitVec.ofNat 16 c))) := by
  have h : (OfNat.ofNat c : Int) = ((c : Nat) : Int) := rfl
  rw [h]; simp only [binOp_mul, Op.intArith, wrap_n16, BitVec.ofInt_mul, ofInt_n16, ofInt_lit16]
theorem mul_l_n16 (t : TypeId) (x : BitVec 16) (c : Nat) : binOp .mul t (.int .u16 (no_index (OfNat.ofNat c))) (.int .u16 (n16 x)) = pure (.int .u16 (n16 (BitVec.ofNat 16 c * x))) := by
  have h : (OfNat.ofNat c : Int) = ((c : Nat) : Int) := rfl
  rw [h]; simp only [binOp_mul, Op.intArith, wrap_n16, BitVec.ofInt_mul, ofInt_n16, ofInt_lit16]
attribute [go_sem high] mul_n16 mul_n16_l mul_l_n16
theorem and_n16 (t : TypeId) (x y : BitVec 16) : binOp .and t (.int .u16 (n16 x)) (.int .u16 (n16 y)) = pure (.int .u16 (n16 (x &&& y))) := by
  have h : ∀ a b : BitVec 16, bits .and .u16 (n16 a) (n16 b) = n16 (a &&& b) := fun a b => by
    show IntKind.wrap .u16 _ = _
    rw [show BitVec.ofInt (IntKind.bits .u16) (n16 a) = a from ofInt_n16 a, show BitVec.ofInt (IntKind.bits .u16) (n16 b) = b from ofInt_n16 b, wrap_n16]
    exact congrArg n16 (ofInt_n16 _)
  simp only [binOp_and, intBits_and, h]
theorem and_n16_l (t : TypeId) (x : BitVec 16) (c : Nat) : binOp .and t (.int .u16 (n16 x)) (.int .u16 (no_index (OfNat.ofNat c))) = pure (.int .u16 (n16 (x &&& BitVec.ofNat 16 c))) := by
  have h : bits .and .u16 (n16 x) ((c : Nat) : Int) = n16 (x &&& BitVec.ofNat 16 c) := by
    show IntKind.wrap .u16 _ = _
    rw [show BitVec.ofInt (IntKind.bits .u16) (n16 x) = x from ofInt_n16 x, show BitVec.ofInt (IntKind.bits .u16) ((c : Nat) : Int) = BitVec.ofNat 16 c from ofInt_lit16 c, wrap_n16]
    exact congrArg n16 (ofInt_n16 _)
  rw [show (OfNat.ofNat c : Int) = ((c : Nat) : Int) from rfl]
  simp only [binOp_and, intBits_and, h]
theorem and_l_n16 (t : TypeId) (x : BitVec 16) (c : Nat) : binOp .and t (.int .u16 (no_index (OfNat.ofNat c))) (.int .u16 (n16 x)) = pure (.int .u16 (n16 (BitVec.ofNat 16 c &&& x))) := by
  have h : bits .and .u16 ((c : Nat) : Int) (n16 x) = n16 (BitVec.ofNat 16 c &&& x) := by
    show IntKind.wrap .u16 _ = _
    rw [show BitVec.ofInt (IntKind.bits .u16) (n16 x) = x from ofInt_n16 x, show BitVec.ofInt (IntKind.bits .u16) ((c : Nat) : Int) = BitVec.ofNat 16 c from ofInt_lit16 c, wrap_n16]
    exact congrArg n16 (ofInt_n16 _)
  rw [show (OfNat.ofNat c : Int) = ((c : Nat) : Int) from rfl]
  simp only [binOp_and, intBits_and, h]
attribute [go_sem high] and_n16 and_n16_l and_l_n16
theorem or_n16 (t : TypeId) (x y : BitVec 16) : binOp .or t (.int .u16 (n16 x)) (.int .u16 (n16 y)) = pure (.int .u16 (n16 (x ||| y))) := by
  have h : ∀ a b : BitVec 16, bits .or .u16 (n16 a) (n16 b) = n16 (a ||| b) := fun a b => by
    show IntKind.wrap .u16 _ = _
    rw [show BitVec.ofInt (IntKind.bits .u16) (n16 a) = a from ofInt_n16 a, show BitVec.ofInt (IntKind.bits .u16) (n16 b) = b from ofInt_n16 b, wrap_n16]
    exact congrArg n16 (ofInt_n16 _)
  simp only [binOp_or, intBits_or, h]
theorem or_n16_l (t : TypeId) (x : BitVec 16) (c : Nat) : binOp .or t (.int .u16 (n16 x)) (.int .u16 (no_index (OfNat.ofNat c))) = pure (.int .u16 (n16 (x ||| BitVec.ofNat 16 c))) := by
  have h : bits .or .u16 (n16 x) ((c : Nat) : Int) = n16 (x ||| BitVec.ofNat 16 c) := by
    show IntKind.wrap .u16 _ = _
    rw [show BitVec.ofInt (IntKind.bits .u16) (n16 x) = x from ofInt_n16 x, show BitVec.ofInt (IntKind.bits .u16) ((c : Nat) : Int) = BitVec.ofNat 16 c from ofInt_lit16 c, wrap_n16]
    exact congrArg n16 (ofInt_n16 _)
  rw [show (OfNat.ofNat c : Int) = ((c : Nat) : Int) from rfl]
  simp only [binOp_or, intBits_or, h]
theorem or_l_n16 (t : TypeId) (x : BitVec 16) (c : Nat) : binOp .or t (.int .u16 (no_index (OfNat.ofNat c))) (.int .u16 (n16 x)) = pure (.int .u16 (n16 (BitVec.ofNat 16 c ||| x))) := by
  have h : bits .or .u16 ((c : Nat) : Int) (n16 x) = n16 (BitVec.ofNat 16 c ||| x) := by
    show IntKind.wrap .u16 _ = _
    rw [show BitVec.ofInt (IntKind.bits .u16) (n16 x) = x from ofInt_n16 x, show BitVec.ofInt (IntKind.bits .u16) ((c : Nat) : Int) = BitVec.ofNat 16 c from ofInt_lit16 c, wrap_n16]
    exact congrArg n16 (ofInt_n16 _)
  rw [show (OfNat.ofNat c : Int) = ((c : Nat) : Int) from rfl]
  simp only [binOp_or, intBits_or, h]
attribute [go_sem high] or_n16 or_n16_l or_l_n16
theorem xor_n16 (t : TypeId) (x y : BitVec 16) : binOp .xor t (.int .u16 (n16 x)) (.int .u16 (n16 y)) = pure (.int .u16 (n16 (x ^^^ y))) := by
  have h : ∀ a b : BitVec 16, bits .xor .u16 (n16 a) (n16 b) = n16 (a ^^^ b) := fun a b => by
    show IntKind.wrap .u16 _ = _
    rw [show BitVec.ofInt (IntKind.bits .u16) (n16 a) = a from ofInt_n16 a, show BitVec.ofInt (IntKind.bits .u16) (n16 b) = b from ofInt_n16 b, wrap_n16]
    exact congrArg n16 (ofInt_n16 _)
  simp only [binOp_xor, intBits_xor, h]
theorem xor_n16_l (t : TypeId) (x : BitVec 16) (c : Nat) : binOp .xor t (.int .u16 (n16 x)) (.int .u16 (no_index (OfNat.ofNat c))) = pure (.int .u16 (n16 (x ^^^ BitVec.ofNat 16 c))) := by
  have h : bits .xor .u16 (n16 x) ((c : Nat) : Int) = n16 (x ^^^ BitVec.ofNat 16 c) := by
    show IntKind.wrap .u16 _ = _
    rw [show BitVec.ofInt (IntKind.bits .u16) (n16 x) = x from ofInt_n16 x, show BitVec.ofInt (IntKind.bits .u16) ((c : Nat) : Int) = BitVec.ofNat 16 c from ofInt_lit16 c, wrap_n16]
    exact congrArg n16 (ofInt_n16 _)
  rw [show (OfNat.ofNat c : Int) = ((c : Nat) : Int) from rfl]
  simp only [binOp_xor, intBits_xor, h]
theorem xor_l_n16 (t : TypeId) (x : BitVec 16) (c : Nat) : binOp .xor t (.int .u16 (no_index (OfNat.ofNat c))) (.int .u16 (n16 x)) = pure (.int .u16 (n16 (BitVec.ofNat 16 c ^^^ x))) := by
  have h : bits .xor .u16 ((c : Nat) : Int) (n16 x) = n16 (BitVec.ofNat 16 c ^^^ x) := by
    show IntKind.wrap .u16 _ = _
    rw [show BitVec.ofInt (IntKind.bits .u16) (n16 x) = x from ofInt_n16 x, show BitVec.ofInt (IntKind.bits .u16) ((c : Nat) : Int) = BitVec.ofNat 16 c from ofInt_lit16 c, wrap_n16]
    exact congrArg n16 (ofInt_n16 _)
  rw [show (OfNat.ofNat c : Int) = ((c : Nat) : Int) from rfl]
  simp only [binOp_xor, intBits_xor, h]
attribute [go_sem high] xor_n16 xor_n16_l xor_l_n16
theorem andNot_n16 (t : TypeId) (x y : BitVec 16) : binOp .andNot t (.int .u16 (n16 x)) (.int .u16 (n16 y)) = pure (.int .u16 (n16 (x &&& ~~~y))) := by
  have h : ∀ a b : BitVec 16, bits .andNot .u16 (n16 a) (n16 b) = n16 (a &&& ~~~b) := fun a b => by
    show IntKind.wrap .u16 _ = _
    rw [show BitVec.ofInt (IntKind.bits .u16) (n16 a) = a from ofInt_n16 a, show BitVec.ofInt (IntKind.bits .u16) (n16 b) = b from ofInt_n16 b, wrap_n16]
    exact congrArg n16 (ofInt_n16 _)
  simp only [binOp_andNot, intBits_andNot, h]
theorem andNot_n16_l (t : TypeId) (x : BitVec 16) (c : Nat) : binOp .andNot t (.int .u16 (n16 x)) (.int .u16 (no_index (OfNat.ofNat c))) = pure (.int .u16 (n16 (x &&& ~~~BitVec.ofNat 16 c))) := by
  have h : bits .andNot .u16 (n16 x) ((c : Nat) : Int) = n16 (x &&& ~~~BitVec.ofNat 16 c) := by
    show IntKind.wrap .u16 _ = _
    rw [show BitVec.ofInt (IntKind.bits .u16) (n16 x) = x from ofInt_n16 x, show BitVec.ofInt (IntKind.bits .u16) ((c : Nat) : Int) = BitVec.ofNat 16 c from ofInt_lit16 c, wrap_n16]
    exact congrArg n16 (ofInt_n16 _)
  rw [show (OfNat.ofNat c : Int) = ((c : Nat) : Int) from rfl]
  simp only [binOp_andNot, intBits_andNot, h]
theorem andNot_l_n16 (t : TypeId) (x : BitVec 16) (c : Nat) : binOp .andNot t (.int .u16 (no_index (OfNat.ofNat c))) (.int .u16 (n16 x)) = pure (.int .u16 (n16 (BitVec.ofNat 16 c &&& ~~~x))) := by
  have h : bits .andNot .u16 ((c : Nat) : Int) (n16 x) = n16 (BitVec.ofNat 16 c &&& ~~~x) := by
    show IntKind.wrap .u16 _ = _
    rw [show BitVec.ofInt (IntKind.bits .u16) (n16 x) = x from ofInt_n16 x, show BitVec.ofInt (IntKind.bits .u16) ((c : Nat) : Int) = BitVec.ofNat 16 c from ofInt_lit16 c, wrap_n16]
    exact congrArg n16 (ofInt_n16 _)
  rw [show (OfNat.ofNat c : Int) = ((c : Nat) : Int) from rfl]
  simp only [binOp_andNot, intBits_andNot, h]
attribute [go_sem high] andNot_n16 andNot_n16_l andNot_l_n16
theorem shl_n16 (t : TypeId) (yk : IntKind) (x : BitVec 16) (y : Int) (h : 0 ≤ y) : binOp .shl t (.int .u16 (n16 x)) (.int yk y) = pure (.int .u16 (n16 (x <<< y.toNat))) := by
  rw [binOp_shl, shift_shl_any _ _ _ _ h, wrap_n16]
  congr 3
  apply BitVec.eq_of_toNat_eq
  simp only [BitVec.toNat_ofInt, BitVec.toNat_shiftLeft, n16, IntKind.bits, Nat.shiftLeft_eq]
  have e : ((x.toNat : Int) * 2 ^ min y.toNat 16) = ((x.toNat * 2 ^ min y.toNat 16 : Nat) : Int) := by push_cast; rfl
  rw [e, show ((2 ^ 16 : Nat) : Int) = ((65536 : Nat) : Int) from rfl, ← Int.natCast_emod, Int.toNat_natCast, show (2 : Nat) ^ 16 = 65536 from rfl]
  rcases Nat.le_total y.toNat 16 with h1 | h1
  · rw [Nat.min_eq_left h1]
  · rw [Nat.min_eq_right h1]
    obtain ⟨d, hd⟩ := Nat.exists_eq_add_of_le h1
    rw [hd, Nat.pow_add, ← Nat.mul_assoc, show (2 : Nat) ^ 16 = 65536 from rfl]
    rw [Nat.mul_mod_left, show x.toNat * 65536 * 2 ^ d = (x.toNat * 2 ^ d) * 65536 from by rw [Nat.mul_assoc, Nat.mul_comm 65536, ← Nat.mul_assoc], Nat.mul_mod_left]
theorem shr_n16 (t : TypeId) (yk : IntKind) (x : BitVec 16) (y : Int) (h : 0 ≤ y) : binOp .shr t (.int .u16 (n16 x)) (.int yk y) = pure (.int .u16 (n16 (x >>> y.toNat))) := by
  rw [binOp_shr, shift_shr_any _ _ _ _ h]
  congr 2
  simp only [BitVec.toNat_ushiftRight, n16, IntKind.bits, Nat.shiftRight_eq_div_pow]
  have e : ((x.toNat : Int) / 2 ^ min y.toNat 16) = ((x.toNat / 2 ^ min y.toNat 16 : Nat) : Int) := by push_cast; rfl
  rw [e]
  congr 1
  rcases Nat.le_total y.toNat 16 with h1 | h1
  · rw [Nat.min_eq_left h1]
  · rw [Nat.min_eq_right h1]
    have hx := x.isLt
    rw [Nat.div_eq_of_lt (by simpa using hx), Nat.div_eq_of_lt (Nat.lt_of_lt_of_le hx (Nat.pow_le_pow_right (by decide) h1))]
attribute [go_sem high] shl_n16 shr_n16
attribute [go_sem] n16_toNat

def n32 (x : BitVec 32) : Int := (x.toNat : Int)
def ix32 (x : BitVec 32) : Nat := x.toNat
theorem n32_nonneg (x : BitVec 32) : 0 ≤ n32 x := by unfold n32; omega
theorem n32_lt (x : BitVec 32) : n32 x < 4294967296 := by unfold n32; have := x.isLt; omega
theorem n32_le (x : BitVec 32) : n32 x ≤ 4294967295 := by unfold n32; have := x.isLt; omega
theorem n32_toNat (x : BitVec 32) : (n32 x).toNat = ix32 x := by unfold n32 ix32; simp
theorem n32_ix (x : BitVec 32) : n32 x = (ix32 x : Int) := rfl
theorem ix32_lt (x : BitVec 32) : ix32 x < 4294967296 := x.isLt
theorem n32_inj (x y : BitVec 32) : (n32 x = n32 y) = (x = y) := by
  unfold n32; apply propext; constructor
  · intro h; apply BitVec.eq_of_toNat_eq; omega
  · intro h; rw [h]
theorem ofInt_n32 (x : BitVec 32) : BitVec.ofInt 32 (n32 x) = x := by unfold n32; simp
theorem ofInt_lit32 (c : Nat) : BitVec.ofInt 32 (c : Int) = BitVec.ofNat 32 c := by simp
theorem ofIntSub32 (a b : Int) : BitVec.ofInt 32 (a - b) = BitVec.ofInt 32 a - BitVec.ofInt 32 b := by
  rw [Int.sub_eq_add_neg, BitVec.ofInt_add, BitVec.ofInt_neg, ← BitVec.sub_eq_add_neg]
theorem wrap_n32 (m : Int) : IntKind.wrap .u32 m = n32 (BitVec.ofInt 32 m) := by
  simp only [IntKind.wrap, IntKind.bits, IntKind.signed, n32, BitVec.toNat_ofInt]
  simp
  omega
theorem add_n32 (t : TypeId) (x y : BitVec 32) : binOp .add t (.int .u32 (n32 x)) (.int .u32 (n32 y)) = pure (.int .u32 (n32 (x + y))) := by
  simp only [binOp_add, Op.intArith, wrap_n32, BitVec.ofInt_add, ofInt_n32]
theorem add_n32_l (t : TypeId) (x : BitVec 32) (c : Nat) : binOp .add t (.int .u32 (n32 x)) (.int .u32 (no_index (OfNat.ofNat c))) = pure (.int .u32 (n32 (x + BitVec.ofNat 32 c))) := by
  have h : (OfNat.ofNat c : Int) = ((c : Nat) : Int) := rfl
  rw [h]; simp only [binOp_add, Op.intArith, wrap_n32, BitVec.ofInt_add, ofInt_n32, ofInt_lit32]
theorem add_l_n32 (t : TypeId) (x : BitVec 32) (c : Nat) : binOp .add t (.int .u32 (no_index (OfNat.ofNat c))) (.int .u32 (n32 x)) = pure (.int .u32 (n32 (BitVec.ofNat 32 c + x))) := by
  have h : (OfNat.ofNat c : Int) = ((c : Nat) : Int) := rfl
  rw [h]; simp only [binOp_add, Op.intArith, wrap_n32, BitVec.ofInt_add, ofInt_n32, ofInt_lit32]
attribute [go_sem high] add_n32 add_n32_l add_l_n32
theorem sub_n32 (t : TypeId) (x y : BitVec 32) : binOp .sub t (.int .u32 (n32 x)) (.int .u32 (n32 y)) = pure (.int .u32 (n32 (x - y))) := by
  simp only [binOp_sub, Op.intArith, wrap_n32, ofIntSub32, ofInt_n32]
theorem sub_n32_l (t : TypeId) (x : BitVec 32) (c : Nat) : binOp .sub t (.int .u32 (n32 x)) (.int .u32 (no_index (OfNat.ofNat c))) = pure (.int .u32 (n32 (x - BitVec.ofNat 32 c))) := by
  have h : (OfNat.ofNat c : Int) = ((c : Nat) : Int) := rfl
  rw [h]; simp only [binOp_sub, Op.intArith, wrap_n32, ofIntSub32, ofInt_n32, ofInt_lit32]
theorem sub_l_n32 (t : TypeId) (x : BitVec 32) (c : Nat) : binOp .sub t (.int .u32 (no_index (OfNat.ofNat c))) (.int .u32 (n32 x)) = pure (.int .u32 (n32 (BitVec.ofNat 32 c - x))) := by
  have h : (OfNat.ofNat c : Int) = ((c : Nat) : Int) := rfl
  rw [h]; simp only [binOp_sub, Op.intArith, wrap_n32, ofIntSub32, ofInt_n32, ofInt_lit32]
attribute [go_sem high] sub_n32 sub_n32_l sub_l_n32
theorem mul_n32 (t : TypeId) (x y : BitVec 32) : binOp .mul t (.int .u32 (n32 x)) (.int .u32 (n32 y)) = pure (.int .u32 (n32 (x * y))) := by
  simp only [binOp_mul, Op.intArith, wrap_n32, BitVec.ofInt_mul, ofInt_n32]
theorem mul_n32_l (t : TypeId) (x : BitVec 32) (c : Nat) : binOp .mul t (.int .u32 (n32 x)) (.int .u32 (no_index (OfNat.ofNat c))) = pure (.int .u32 (n32 (x * BitVec.ofNat 32 c))) := by
  have h : (OfNat.ofNat c : Int) = ((c : Nat) : Int) := rfl
  rw [h]; simp only [binOp_mul, Op.intArith, wrap_n32, BitVec.ofInt_mul, ofInt_n32, ofInt_lit32]
theorem mul_l_n32 (t : TypeId) (x : BitVec 32) (c : Nat) : binOp .mul t (.int .u32 (no_index (OfNat.ofNat c))) (.int .u32 (n32 x)) = pure (.int .u32 (n32 (BitVec.ofNat 32 c * x))) := by
  have h : (OfNat.ofNat c : Int) = ((c : Nat) : Int) := rfl
  rw [h]; simp only [binOp_mul, Op.intArith, wrap_n32, BitVec.ofInt_mul, ofInt_n32, ofInt_lit32]
attribute [go_sem high] mul_n32 mul_n32_l mul_l_n32
theorem and_n32 (t : TypeId) (x y : BitVec 32) : binOp .and t (.int .u32 (n32 x)) (.int .u32 (n32 y)) = pure (.int .u32 (n32 (x &&& y))) := by
  have h : ∀ a b : BitVec 32, bits .and .u32 (n32 a) (n32 b) = n32 (a &&& b) := fun a b => by
    show IntKind.wrap .u32 _ = _
    rw [show BitVec.ofInt (IntKind.bits .u32) (n32 a) = a from ofInt_n32 a, show BitVec.ofInt (IntKind.bits .u32) (n32 b) = b from ofInt_n32 b, wrap_n32]
    exact congrArg n32 (ofInt_n32 _)
  simp only [binOp_and, intBits_and, h]
theorem and_n32_l (t : TypeId) (x : BitVec 32) (c : Nat) : binOp .and t (.int .u32 (n32 x)) (.int .u32 (no_index (OfNat.ofNat c))) = pure (.int .u32 (n32 (x &&& BitVec.ofNat 32 c))) := by
  have h : bits .and .u32 (n32 x) ((c : Nat) : Int) = n32 (x &&& BitVec.ofNat 32 c) := by
    show IntKind.wrap .u32 _ = _
    rw [show BitVec.ofInt (IntKind.bits .u32) (n32 x) = x from ofInt_n32 x, show BitVec.ofInt (IntKind.bits .u32) ((c : Nat) : Int) = BitVec.ofNat 32 c from ofInt_lit32 c, wrap_n32]
    exact congrArg n32 (ofInt_n32 _)
  rw [show (OfNat.ofNat c : Int) = ((c : Nat) : Int) from rfl]
  simp only [binOp_and, intBits_and, h]
theorem and_l_n32 (t : TypeId) (x : BitVec 32) (c : Nat) : binOp .and t (.int .u32 (no_index (OfNat.ofNat c))) (.int .u32 (n32 x)) = pure (.int .u32 (n32 (BitVec.ofNat 32 c &&& x))) := by
  have h : bits .and .u32 ((c : Nat) : Int) (n32 x) = n32 (BitVec.ofNat 32 c &&& x) := by
    show IntKind.wrap .u32 _ = _
    rw [show BitVec.ofInt (IntKind.bits .u32) (n32 x) = x from ofInt_n32 x, show BitVec.ofInt (IntKind.bits .u32) ((c : Nat) : Int) = BitVec.ofNat 32 c from ofInt_lit32 c, wrap_n32]
    exact congrArg n32 (ofInt_n32 _)
  rw [show (OfNat.ofNat c : Int) = ((c : Nat) : Int) from rfl]
  simp only [binOp_and, intBits_and, h]
attribute [go_sem high] and_n32 and_n32_l and_l_n32
theorem or_n32 (t : TypeId) (x y : BitVec 32) : binOp .or t (.int .u32 (n32 x)) (.int .u32 (n32 y)) = pure (.int .u32 (n32 (x ||| y))) := by
  have h : ∀ a b : BitVec 32, bits .or .u32 (n32 a) (n32 b) = n32 (a ||| b) := fun a b => by
    show IntKind.wrap .u32 _ = _
    rw [show BitVec.ofInt (IntKind.bits .u32) (n32 a) = a from ofInt_n32 a, show BitVec.ofInt (IntKind.bits .u32) (n32 b) = b from ofInt_n32 b, wrap_n32]
    exact congrArg n32 (ofInt_n32 _)
  simp only [binOp_or, intBits_or, h]
theorem or_n32_l (t : TypeId) (x : BitVec 32) (c : Nat) : binOp .or t (.int .u32 (n32 x)) (.int .u32 (no_index (OfNat.ofNat c))) = pure (.int .u32 (n32 (x ||| BitVec.ofNat 32 c))) := by
  have h : bits .or .u32 (n32 x) ((c : Nat) : Int) = n32 (x ||| BitVec.ofNat 32 c) := by
    show IntKind.wrap .u32 _ = _
    rw [show BitVec.ofInt (IntKind.bits .u32) (n32 x) = x from ofInt_n32 x, show BitVec.ofInt (IntKind.bits .u32) ((c : Nat) : Int) = BitVec.ofNat 32 c from ofInt_lit32 c, wrap_n32]
    exact congrArg n32 (ofInt_n32 _)
  rw [show (OfNat.ofNat c : Int) = ((c : Nat) : Int) from rfl]
  simp only [binOp_or, intBits_or, h]
theorem or_l_n32 (t : TypeId) (x : BitVec 32) (c : Nat) : binOp .or t (.int .u32 (no_index (OfNat.ofNat c))) (.int .u32 (n32 x)) = pure (.int .u32 (n32 (BitVec.ofNat 32 c ||| x))) := by
  have h : bits .or .u32 ((c : Nat) : Int) (n32 x) = n32 (BitVec.ofNat 32 c ||| x) := by
    show IntKind.wrap .u32 _ = _
    rw [show BitVec.ofInt (IntKind.bits .u32) (n32 x) = x from ofInt_n32 x, show BitVec.ofInt (IntKind.bits .u32) ((c : Nat) : Int) = BitVec.ofNat 32 c from ofInt_lit32 c, wrap_n32]
    exact congrArg n32 (ofInt_n32 _)
  rw [show (OfNat.ofNat c : Int) = ((c : Nat) : Int) from rfl]
  simp only [binOp_or, intBits_or, h]
attribute [go_sem high] or_n32 or_n32_l or_l_n32
theorem xor_n32 (t : TypeId) (x y : BitVec 32) : binOp .xor t (.int .u32 (n32 x)) (.int .u32 (n32 y)) = pure (.int .u32 (n32 (x ^^^ y))) := by
  have h : ∀ a b : BitVec 32, bits .xor .u32 (n32 a) (n32 b) = n32 (a ^^^ b) := fun a b => by
    show IntKind.wrap .u32 _ = _
    rw [show BitVec.ofInt (IntKind.bits .u32) (n32 a) = a from ofInt_n32 a, show BitVec.ofInt (IntKind.bits .u32) (n32 b) = b from ofInt_n32 b, wrap_n32]
    exact congrArg n32 (ofInt_n32 _)
  simp only [binOp_xor, intBits_xor, h]
theorem xor_n32_l (t : TypeId) (x : BitVec 32) (c : Nat) : binOp .xor t (.int .u32 (n32 x)) (.int .u32 (no_index (OfNat.ofNat c))) = pure (.int .u32 (n32 (x ^^^ BitVec.ofNat 32 c))) := by
  have h : bits .xor .u32 (n32 x) ((c : Nat) : Int) = n32 (x ^^^ BitVec.ofNat 32 c) := by
    show IntKind.wrap .u32 _ = _
    rw [show BitVec.ofInt (IntKind.bits .u32) (n32 x) = x from ofInt_n32 x, show BitVec.ofInt (IntKind.bits .u32) ((c : Nat) : Int) = BitVec.ofNat 32 c from ofInt_lit32 c, wrap_n32]
    exact congrArg n32 (ofInt_n32 _)
  rw [show (OfNat.ofNat c : Int) = ((c : Nat) : Int) from rfl]
  simp only [binOp_xor, intBits_xor, h]
theorem xor_l_n32 (t : TypeId) (x : BitVec 32) (c : Nat) : binOp .xor t (.int .u32 (no_index (OfNat.ofNat c))) (.int .u32 (n32 x)) = pure (.int .u32 (n32 (BitVec.ofNat 32 c ^^^ x))) := by
  have h : bits .xor .u32 ((c : Nat) : Int) (n32 x) = n32 (BitVec.ofNat 32 c ^^^ x) := by
    show IntKind.wrap .u32 _ = _
    rw [show BitVec.ofInt (IntKind.bits .u32) (n32 x) = x from ofInt_n32 x, show BitVec.ofInt (IntKind.bits .u32) ((c : Nat) : Int) = BitVec.ofNat 32 c from ofInt_lit32 c, wrap_n32]
    exact congrArg n32 (ofInt_n32 _)
  rw [show (OfNat.ofNat c : Int) = ((c : Nat) : Int) from rfl]
  simp only [binOp_xor, intBits_xor, h]
attribute [go_sem high] xor_n32 xor_n32_l xor_l_n32
theorem andNot_n32 (t : TypeId) (x y : BitVec 32) : binOp .andNot t (.int .u32 (n32 x)) (.int .u32 (n32 y)) = pure (.int .u32 (n32 (x &&& ~~~y))) := by
  have h : ∀ a b : BitVec 32, bits .andNot .u32 (n32 a) (n32 b) = n32 (a &&& ~~~b) := fun a b => by
    show IntKind.wrap .u32 _ = _
    rw [show BitVec.ofInt (IntKind.bits .u32) (n32 a) = a from ofInt_n32 a, show BitVec.ofInt (IntKind.bits .u32) (n32 b) = b from ofInt_n32 b, wrap_n32]
    exact congrArg n32 (ofInt_n32 _)
  simp only [binOp_andNot, intBits_andNot, h]
theorem andNot_n32_l (t : TypeId) (x : BitVec 32) (c : Nat) : binOp .andNot t (.int .u32 (n32 x)) (.int .u32 (no_index (OfNat.ofNat c))) = pure (.int .u32 (n32 (x &&& ~~~BitVec.ofNat 32 c))) := by
  have h : bits .andNot .u32 (n32 x) ((c : Nat) : Int) = n32 (x &&& ~~~BitVec.ofNat 32 c) := by
    show IntKind.wrap .u32 _ = _
    rw [show BitVec.ofInt (IntKind.bits .u32) (n32 x) = x from ofInt_n32 x, show BitVec.ofInt (IntKind.bits .u32) ((c : Nat) : Int) = BitVec.ofNat 32 c from ofInt_lit32 c, wrap_n32]
    exact congrArg n32 (ofInt_n32 _)
  rw [show (OfNat.ofNat c : Int) = ((c : Nat) : Int) from rfl]
  simp only [binOp_andNot, intBits_andNot, h]
theorem andNot_l_n32 (t : TypeId) (x : BitVec 32) (c : Nat) : binOp .andNot t (.int .u32 (no_index (OfNat.ofNat c))) (.int .u32 (n32 x)) = pure (.int .u32 (n32 (BitVec.ofNat 32 c &&& ~~~x))) := by
  have h : bits .andNot .u32 ((c : Nat) : Int) (n32 x) = n32 (BitVec.ofNat 32 c &&& ~~~x) := by
    show IntKind.wrap .u32 _ = _
    rw [show BitVec.ofInt (IntKind.bits .u32) (n32 x) = x from ofInt_n32 x, show BitVec.ofInt (IntKind.bits .u32) ((c : Nat) : Int) = BitVec.ofNat 32 c from ofInt_lit32 c, wrap_n32]
    exact congrArg n32 (ofInt_n32 _)
  rw [show (OfNat.ofNat c : Int) = ((c : Nat) : Int) from rfl]
  simp only [binOp_andNot, intBits_andNot, h]
attribute [go_sem high] andNot_n32 andNot_n32_l andNot_l_n32
theorem shl_n32 (t : TypeId) (yk : IntKind) (x : BitVec 32) (y : Int) (h : 0 ≤ y) : binOp .shl t (.int .u32 (n32 x)) (.int yk y) = pure (.int .u32 (n32 (x <<< y.toNat))) := by
  rw [binOp_shl, shift_shl_any _ _ _ _ h, wrap_n32]
  congr 3
  apply BitVec.eq_of_toNat_eq
  simp only [BitVec.toNat_ofInt, BitVec.toNat_shiftLeft, n32, IntKind.bits, Nat.shiftLeft_eq]
  have e : ((x.toNat : Int) * 2 ^ min y.toNat 32) = ((x.toNat * 2 ^ min y.toNat 32 : Nat) : Int) := by push_cast; rfl
  rw [e, show ((2 ^ 32 : Nat) : Int) = ((4294967296 : Nat) : Int) from rfl, ← Int.natCast_emod, Int.toNat_natCast, show (2 : Nat) ^ 32 = 4294967296 from rfl]
  rcases Nat.le_total y.toNat 32 with h1 | h1
  · rw [Nat.min_eq_left h1]
  · rw [Nat.min_eq_right h1]
    obtain ⟨d, hd⟩ := Nat.exists_eq_add_of_le h1
    rw [hd, Nat.pow_add, ← Nat.mul_assoc, show (2 : Nat) ^ 32 = 4294967296 from rfl]
    rw [Nat.mul_mod_left, show x.toNat * 4294967296 * 2 ^ d = (x.toNat * 2 ^ d) * 4294967296 from by rw [Nat.mul_assoc, Nat.mul_comm 4294967296, ← Nat.mul_assoc], Nat.mul_mod_left]
theorem shr_n32 (t : TypeId) (yk : IntKind) (x : BitVec 32) (y : Int) (h : 0 ≤ y) : binOp .shr t (.int .u32 (n32 x)) (.int yk y) = pure (.int .u32 (n32 (x >>> y.toNat))) := by
  rw [binOp_shr, shift_shr_any _ _ _ _ h]
  congr 2
  simp only [BitVec.toNat_ushiftRight, n32, IntKind.bits, Nat.shiftRight_eq_div_pow]
  have e : ((x.toNat : Int) / 2 ^ min y.toNat 32) = ((x.toNat / 2 ^ min y.toNat 32 : Nat) : Int) := by push_cast; rfl
  rw [e]
  congr 1
  rcases Nat.le_total y.toNat 32 with h1 | h1
  · rw [Nat.min_eq_left h1]
  · rw [Nat.min_eq_right h1]
    have hx := x.isLt
    rw [Nat.div_eq_of_lt (by simpa using hx), Nat.div_eq_of_lt (Nat.lt_of_lt_of_le hx (Nat.pow_le_pow_right (by decide) h1))]
attribute [go_sem high] shl_n32 shr_n32
attribute [go_sem] n32_toNat

def n64 (x : BitVec 64) : Int := (x.toNat : Int)
def ix64 (x : BitVec 64) : Nat := x.toNat
theorem n64_nonneg (x : BitVec 64) : 0 ≤ n64 x := by unfold n64; omega
theorem n64_lt (x : BitVec 64) : n64 x < 18446744073709551616 := by unfold n64; have := x.isLt; omega
theorem n64_le (x : BitVec 64) : n64 x ≤ 18446744073709551615 := by unfold n64; have := x.isLt; omega
theorem n64_toNat (x : BitVec 64) : (n64 x).toNat = ix64 x := by unfold n64 ix64; simp
theorem n64_ix (x : BitVec 64) : n64 x = (ix64 x : Int) := rfl
theorem ix64_lt (x : BitVec 64) : ix64 x < 18446744073709551616 := x.isLt
theorem n64_inj (x y : BitVec 64) : (n64 x = n64 y) = (x = y) := by
  unfold n64; apply propext; constructor
  · intro h; apply BitVec.eq_of_toNat_eq; omega
  · intro h; rw [h]
theorem ofInt_n64 (x : BitVec 64) : BitVec.ofInt 64 (n64 x) = x := by unfold n64; simp
theorem ofInt_lit64 (c : Nat) : BitVec.ofInt 64 (c : Int) = BitVec.ofNat 64 c := by simp
theorem ofIntSub64 (a b : Int) : BitVec.ofInt 64 (a - b) = BitVec.ofInt 64 a - BitVec.ofInt 64 b := by
  rw [Int.sub_eq_add_neg, BitVec.ofInt_add, BitVec.ofInt_neg, ← BitVec.sub_eq_add_neg]
theorem wrap_n64 (m : Int) : IntKind.wrap .u64 m = n64 (BitVec.ofInt 64 m) := by
  simp only [IntKind.wrap, IntKind.bits, IntKind.signed, n64, BitVec.toNat_ofInt]
  simp
  omega
theorem add_n64 (t : TypeId) (x y : BitVec 64) : binOp .add t (.int .u64 (n64 x)) (.int .u64 (n64 y)) = pure (.int .u64 (n64 (x + y))) := by
  simp only [binOp_add, Op.intArith, wrap_n64, BitVec.ofInt_add, ofInt_n64]
theorem add_n64_l (t : TypeId) (x : BitVec 64) (c : Nat) : binOp .add t (.int .u64 (n64 x)) (.int .u64 (no_index (OfNat.ofNat c))) = pure (.int .u64 (n64 (x + BitVec.ofNat 64 c))) := by
  have h : (OfNat.ofNat c : Int) = ((c : Nat) : Int) := rfl
  rw [h]; simp only [binOp_add, Op.intArith, wrap_n64, BitVec.ofInt_add, ofInt_n64, ofInt_lit64]
theorem add_l_n64 (t : TypeId) (x : BitVec 64) (c : Nat) : binOp .add t (.int .u64 (no_index (OfNat.ofNat c))) (.int .u64 (n64 x)) = pure (.int .u64 (n64 (BitVec.ofNat 64 c + x))) := by
  have h : (OfNat.ofNat c : Int) = ((c : Nat) : Int) := rfl
  rw [h]; simp only [binOp_add, Op.intArith, wrap_n64, BitVec.ofInt_add, ofInt_n64, ofInt_lit64]
attribute [go_sem high] add_n64 add_n64_l add_l_n64
theorem sub_n64 (t : TypeId) (x y : BitVec 64) : binOp .sub t (.int .u64 (n64 x)) (.int .u64 (n64 y)) = pure (.int .u64 (n64 (x - y))) := by
  simp only [binOp_sub, Op.intArith, wrap_n64, ofIntSub64, ofInt_n64]
theorem sub_n64_l (t : TypeId) (x : BitVec 64) (c : Nat) : binOp .sub t (.int .u64 (n64 x)) (.int .u64 (no_index (OfNat.ofNat c))) = pure (.int .u64 (n64 (x - BitVec.ofNat 64 c))) := by
  have h : (OfNat.ofNat c : Int) = ((c : Nat) : Int) := rfl
  rw [h]; simp only [binOp_sub, Op.intArith, wrap_n64, ofIntSub64, ofInt_n64, ofInt_lit64]
theorem sub_l_n64 (t : TypeId) (x : BitVec 64) (c : Nat) : binOp .sub t (.int .u64 (no_index (OfNat.ofNat c))) (.int .u64 (n64 x)) = pure (.int .u64 (n64 (BitVec.ofNat 64 c - x))) := by
  have h : (OfNat.ofNat c : Int) = ((c : Nat) : Int) := rfl
  rw [h]; simp only [binOp_sub, Op.intArith, wrap_n64, ofIntSub64, ofInt_n64, ofInt_lit64]
attribute [go_sem high] sub_n64 sub_n64_l sub_l_n64
theorem mul_n64 (t : TypeId) (x y : BitVec 64) : binOp .mul t (.int .u64 (n64 x)) (.int .u64 (n64 y)) = pure (.int .u64 (n64 (x * y))) := by
  simp only [binOp_mul, Op.intArith, wrap_n64, BitVec.ofInt_mul, ofInt_n64]
theorem mul_n64_l (t : TypeId) (x : BitVec 64) (c : Nat) : binOp .mul t (.int .u64 (n64 x)) (.int .u64 (no_index (OfNat.ofNat c))) = pure (.int .u64 (n64 (x * BitVec.ofNat 64 c))) := by
  have h : (OfNat.ofNat c : Int) = ((c : Nat) : Int) := rfl
  rw [h]; simp only [binOp_mul, Op.intArith, wrap_n64, BitVec.ofInt_mul, ofInt_n64, ofInt_lit64]
theorem mul_l_n64 (t : TypeId) (x : BitVec 64) (c : Nat) : binOp .mul t (.int .u64 (no_index (OfNat.ofNat c))) (.int .u64 (n64 x)) = pure (.int .u64 (n64 (BitVec.ofNat 64 c * x))) := by
  have h : (OfNat.ofNat c : Int) = ((c : Nat) : Int) := rfl
  rw [h]; simp only [binOp_mul, Op.intArith, wrap_n64, BitVec.ofInt_mul, ofInt_n64, ofInt_lit64]
attribute [go_sem high] mul_n64 mul_n64_l mul_l_n64
theorem and_n64 (t : TypeId) (x y : BitVec 64) : binOp .and t (.int .u64 (n64 x)) (.int .u64 (n64 y)) = pure (.int .u64 (n64 (x &&& y))) := by
  have h : ∀ a b : BitVec 64, bits .and .u64 (n64 a) (n64 b) = n64 (a &&& b) := fun a b => by
    show IntKind.wrap .u64 _ = _
    rw [show BitVec.ofInt (IntKind.bits .u64) (n64 a) = a from ofInt_n64 a, show BitVec.ofInt (IntKind.bits .u64) (n64 b) = b from ofInt_n64 b, wrap_n64]
    exact congrArg n64 (ofInt_n64 _)
  simp only [binOp_and, intBits_and, h]
theorem and_n64_l (t : TypeId) (x : BitVec 64) (c : Nat) : binOp .and t (.int .u64 (n64 x)) (.int .u64 (no_index (OfNat.ofNat c))) = pure (.int .u64 (n64 (x &&& BitVec.ofNat 64 c))) := by
  have h : bits .and .u64 (n64 x) ((c : Nat) : Int) = n64 (x &&& BitVec.ofNat 64 c) := by
    show IntKind.wrap .u64 _ = _
    rw [show BitVec.ofInt (IntKind.bits .u64) (n64 x) = x from ofInt_n64 x, show BitVec.ofInt (IntKind.bits .u64) ((c : Nat) : Int) = BitVec.ofNat 64 c from ofInt_lit64 c, wrap_n64]
    exact congrArg n64 (ofInt_n64 _)
  rw [show (OfNat.ofNat c : Int) = ((c : Nat) : Int) from rfl]
  simp only [binOp_and, intBits_and, h]
theorem and_l_n64 (t : TypeId) (x : BitVec 64) (c : Nat) : binOp .and t (.int .u64 (no_index (OfNat.ofNat c))) (.int .u64 (n64 x)) = pure (.int .u64 (n64 (BitVec.ofNat 64 c &&& x))) := by
  have h : bits .and .u64 ((c : Nat) : Int) (n64 x) = n64 (BitVec.ofNat 64 c &&& x) := by
    show IntKind.wrap .u64 _ = _
    rw [show BitVec.ofInt (IntKind.bits .u64) (n64 x) = x from ofInt_n64 x, show BitVec.ofInt (IntKind.bits .u64) ((c : Nat) : Int) = BitVec.ofNat 64 c from ofInt_lit64 c, wrap_n64]
    exact congrArg n64 (ofInt_n64 _)
  rw [show (OfNat.ofNat c : Int) = ((c : Nat) : Int) from rfl]
  simp only [binOp_and, intBits_and, h]
attribute [go_sem high] and_n64 and_n64_l and_l_n64
theorem or_n64 (t : TypeId) (x y : BitVec 64) : binOp .or t (.int .u64 (n64 x)) (.int .u64 (n64 y)) = pure (.int .u64 (n64 (x ||| y))) := by
  have h : ∀ a b : BitVec 64, bits .or .u64 (n64 a) (n64 b) = n64 (a ||| b) := fun a b => by
    show IntKind.wrap .u64 _ = _
    rw [show BitVec.ofInt (IntKind.bits .u64) (n64 a) = a from ofInt_n64 a, show BitVec.ofInt (IntKind.bits .u64) (n64 b) = b from ofInt_n64 b, wrap_n64]
    exact congrArg n64 (ofInt_n64 _)
  simp only [binOp_or, intBits_or, h]
theorem or_n64_l (t : TypeId) (x : BitVec 64) (c : Nat) : binOp .or t (.int .u64 (n64 x)) (.int .u64 (no_index (OfNat.ofNat c))) = pure (.int .u64 (n64 (x ||| BitVec.ofNat 64 c))) := by
  have h : bits .or .u64 (n64 x) ((c : Nat) : Int) = n64 (x ||| BitVec.ofNat 64 c) := by
    show IntKind.wrap .u64 _ = _
    rw [show BitVec.ofInt (IntKind.bits .u64) (n64 x) = x from ofInt_n64 x, show BitVec.ofInt (IntKind.bits .u64) ((c : Nat) : Int) = BitVec.ofNat 64 c from ofInt_lit64 c, wrap_n64]
    exact congrArg n64 (ofInt_n64 _)
  rw [show (OfNat.ofNat c : Int) = ((c : Nat) : Int) from rfl]
  simp only [binOp_or, intBits_or, h]
theorem or_l_n64 (t : TypeId) (x : BitVec 64) (c : Nat) : binOp .or t (.int .u64 (no_index (OfNat.ofNat c))) (.int .u64 (n64 x)) = pure (.int .u64 (n64 (BitVec.ofNat 64 c ||| x))) := by
  have h : bits .or .u64 ((c : Nat) : Int) (n64 x) = n64 (BitVec.ofNat 64 c ||| x) := by
    show IntKind.wrap .u64 _ = _
    rw [show BitVec.ofInt (IntKind.bits .u64) (n64 x) = x from ofInt_n64 x, show BitVec.ofInt (IntKind.bits .u64) ((c : Nat) : Int) = BitVec.ofNat 64 c from ofInt_lit64 c, wrap_n64]
    exact congrArg n64 (ofInt_n64 _)
  rw [show (OfNat.ofNat c : Int) = ((c : Nat) : Int) from rfl]
  simp only [binOp_or, intBits_or, h]
attribute [go_sem high] or_n64 or_n64_l or_l_n64
theorem xor_n64 (t : TypeId) (x y : BitVec 64) : binOp .xor t (.int .u64 (n64 x)) (.int .u64 (n64 y)) = pure (.int .u64 (n64 (x ^^^ y))) := by
  have h : ∀ a b : BitVec 64, bits .xor .u64 (n64 a) (n64 b) = n64 (a ^^^ b) := fun a b => by
    show IntKind.wrap .u64 _ = _
    rw [show BitVec.ofInt (IntKind.bits .u64) (n64 a) = a from ofInt_n64 a, show BitVec.ofInt (IntKind.bits .u64) (n64 b) = b from ofInt_n64 b, wrap_n64]
    exact congrArg n64 (ofInt_n64 _)
  simp only [binOp_xor, intBits_xor, h]
theorem xor_n64_l (t : TypeId) (x : BitVec 64) (c : Nat) : binOp .xor t (.int .u64 (n64 x)) (.int .u64 (no_index (OfNat.ofNat c))) = pure (.int .u64 (n64 (x ^^^ BitVec.ofNat 64 c))) := by
  have h : bits .xor .u64 (n64 x) ((c : Nat) : Int) = n64 (x ^^^ BitVec.ofNat 64 c) := by
    show IntKind.wrap .u64 _ = _
    rw [show BitVec.ofInt (IntKind.bits .u64) (n64 x) = x from ofInt_n64 x, show BitVec.ofInt (IntKind.bits .u64) ((c : Nat) : Int) = BitVec.ofNat 64 c from ofInt_lit64 c, wrap_n64]
    exact congrArg n64 (ofInt_n64 _)
  rw [show (OfNat.ofNat c : Int) = ((c : Nat) : Int) from rfl]
  simp only [binOp_xor, intBits_xor, h]
theorem xor_l_n64 (t : TypeId) (x : BitVec 64) (c : Nat) : binOp .xor t (.int .u64 (no_index (OfNat.ofNat c))) (.int .u64 (n64 x)) = pure (.int .u64 (n64 (BitVec.ofNat 64 c ^^^ x))) := by
  have h : bits .xor .u64 ((c : Nat) : Int) (n64 x) = n64 (BitVec.ofNat 64 c ^^^ x) := by
    show IntKind.wrap .u64 _ = _
    rw [show BitVec.ofInt (IntKind.bits .u64) (n64 x) = x from ofInt_n64 x, show BitVec.ofInt (IntKind.bits .u64) ((c : Nat) : Int) = BitVec.ofNat 64 c from ofInt_lit64 c, wrap_n64]
    exact congrArg n64 (ofInt_n64 _)
  rw [show (OfNat.ofNat c : Int) = ((c : Nat) : Int) from rfl]
  simp only [binOp_xor, intBits_xor, h]
attribute [go_sem high] xor_n64 xor_n64_l xor_l_n64
theorem andNot_n64 (t : TypeId) (x y : BitVec 64) : binOp .andNot t (.int .u64 (n64 x)) (.int .u64 (n64 y)) = pure (.int .u64 (n64 (x &&& ~~~y))) := by
  have h : ∀ a b : BitVec 64, bits .andNot .u64 (n64 a) (n64 b) = n64 (a &&& ~~~b) := fun a b => by
    show IntKind.wrap .u64 _ = _
    rw [show BitVec.ofInt (IntKind.bits .u64) (n64 a) = a from ofInt_n64 a, show BitVec.ofInt (IntKind.bits .u64) (n64 b) = b from ofInt_n64 b, wrap_n64]
    exact congrArg n64 (ofInt_n64 _)
  simp only [binOp_andNot, intBits_andNot, h]
theorem andNot_n64_l (t : TypeId) (x : BitVec 64) (c : Nat) : binOp .andNot t (.int .u64 (n64 x)) (.int .u64 (no_index (OfNat.ofNat c))) = pure (.int .u64 (n64 (x &&& ~~~BitVec.ofNat 64 c))) := by
  have h : bits .andNot .u64 (n64 x) ((c : Nat) : Int) = n64 (x &&& ~~~BitVec.ofNat 64 c) := by
    show IntKind.wrap .u64 _ = _
    rw [show BitVec.ofInt (IntKind.bits .u64) (n64 x) = x from ofInt_n64 x, show BitVec.ofInt (IntKind.bits .u64) ((c : Nat) : Int) = BitVec.ofNat 64 c from ofInt_lit64 c, wrap_n64]
    exact congrArg n64 (ofInt_n64 _)
  rw [show (OfNat.ofNat c : Int) = ((c : Nat) : Int) from rfl]
  simp only [binOp_andNot, intBits_andNot, h]
theorem andNot_l_n64 (t : TypeId) (x : BitVec 64) (c : Nat) : binOp .andNot t (.int .u64 (no_index (OfNat.ofNat c))) (.int .u64 (n64 x)) = pure (.int .u64 (n64 (BitVec.ofNat 64 c &&& ~~~x))) := by
  have h : bits .andNot .u64 ((c : Nat) : Int) (n64 x) = n64 (BitVec.ofNat 64 c &&& ~~~x) := by
    show IntKind.wrap .u64 _ = _
    rw [show BitVec.ofInt (IntKind.bits .u64) (n64 x) = x from ofInt_n64 x, show BitVec.ofInt (IntKind.bits .u64) ((c : Nat) : Int) = BitVec.ofNat 64 c from ofInt_lit64 c, wrap_n64]
    exact congrArg n64 (ofInt_n64 _)
  rw [show (OfNat.ofNat c : Int) = ((c : Nat) : Int) from rfl]
  simp only [binOp_andNot, intBits_andNot, h]
attribute [go_sem high] andNot_n64 andNot_n64_l andNot_l_n64
theorem shl_n64 (t : TypeId) (yk : IntKind) (x : BitVec 64) (y : Int) (h : 0 ≤ y) : binOp .shl t (.int .u64 (n64 x)) (.int yk y) = pure (.int .u64 (n64 (x <<< y.toNat))) := by
  rw [binOp_shl, shift_shl_any _ _ _ _ h, wrap_n64]
  congr 3
  apply BitVec.eq_of_toNat_eq
  simp only [BitVec.toNat_ofInt, BitVec.toNat_shiftLeft, n64, IntKind.bits, Nat.shiftLeft_eq]
  have e : ((x.toNat : Int) * 2 ^ min y.toNat 64) = ((x.toNat * 2 ^ min y.toNat 64 : Nat) : Int) := by push_cast; rfl
  rw [e, show ((2 ^ 64 : Nat) : Int) = ((18446744073709551616 : Nat) : Int) from rfl, ← Int.natCast_emod, Int.toNat_natCast, show (2 : Nat) ^ 64 = 18446744073709551616 from rfl]
  rcases Nat.le_total y.toNat 64 with h1 | h1
  · rw [Nat.min_eq_left h1]
  · rw [Nat.min_eq_right h1]
    obtain ⟨d, hd⟩ := Nat.exists_eq_add_of_le h1
    rw [hd, Nat.pow_add, ← Nat.mul_assoc, show (2 : Nat) ^ 64 = 18446744073709551616 from rfl]
    rw [Nat.mul_mod_left, show x.toNat * 18446744073709551616 * 2 ^ d = (x.toNat * 2 ^ d) * 18446744073709551616 from by rw [Nat.mul_assoc, Nat.mul_comm 18446744073709551616, ← Nat.mul_assoc], Nat.mul_mod_left]
theorem shr_n64 (t : TypeId) (yk : IntKind) (x : BitVec 64) (y : Int) (h : 0 ≤ y) : binOp .shr t (.int .u64 (n64 x)) (.int yk y) = pure (.int .u64 (n64 (x >>> y.toNat))) := by
  rw [binOp_shr, shift_shr_any _ _ _ _ h]
  congr 2
  simp only [BitVec.toNat_ushiftRight, n64, IntKind.bits, Nat.shiftRight_eq_div_pow]
  have e : ((x.toNat : Int) / 2 ^ min y.toNat 64) = ((x.toNat / 2 ^ min y.toNat 64 : Nat) : Int) := by push_cast; rfl
  rw [e]
  congr 1
  rcases Nat.le_total y.toNat 64 with h1 | h1
  · rw [Nat.min_eq_left h1]
  · rw [Nat.min_eq_right h1]
    have hx := x.isLt
    rw [Nat.div_eq_of_lt (by simpa using hx), Nat.div_eq_of_lt (Nat.lt_of_lt_of_le hx (Nat.pow_le_pow_right (by decide) h1))]
attribute [go_sem high] shl_n64 shr_n64
attribute [go_sem] n64_toNat
theorem conv_8_16 (x : BitVec 8) : IntKind.wrap .u16 (n8 x) = n16 (x.setWidth 16) := by
  rw [wrap_n16]
  refine congrArg _ (BitVec.eq_of_toNat_eq ?_)
  rw [BitVec.toNat_ofInt, BitVec.toNat_setWidth]
  unfold n8
  omega
theorem conv_to_8_16 (x : BitVec 8) : Conv.intToInt .u16 (n8 x) = pure (.int .u16 (n16 (x.setWidth 16))) := by unfold Conv.intToInt; rw [conv_8_16]
attribute [go_sem high] conv_8_16 conv_to_8_16
theorem conv_8_32 (x : BitVec 8) : IntKind.wrap .u32 (n8 x) = n32 (x.setWidth 32) := by
  rw [wrap_n32]
  refine congrArg _ (BitVec.eq_of_toNat_eq ?_)
  rw [BitVec.toNat_ofInt, BitVec.toNat_setWidth]
  unfold n8
  omega
theorem conv_to_8_32 (x : BitVec 8) : Conv.intToInt .u32 (n8 x) = pure (.int .u32 (n32 (x.setWidth 32))) := by unfold Conv.intToInt; rw [conv_8_32]
attribute [go_sem high] conv_8_32 conv_to_8_32
theorem conv_8_64 (x : BitVec 8) : IntKind.wrap .u64 (n8 x) = n64 (x.setWidth 64) := by
  rw [wrap_n64]
  refine congrArg _ (BitVec.eq_of_toNat_eq ?_)
  rw [BitVec.toNat_ofInt, BitVec.toNat_setWidth]
  unfold n8
  omega
theorem conv_to_8_64 (x : BitVec 8) : Conv.intToInt .u64 (n8 x) = pure (.int .u64 (n64 (x.setWidth 64))) := by unfold Conv.intToInt; rw [conv_8_64]
attribute [go_sem high] conv_8_64 conv_to_8_64
theorem conv_16_8 (x : BitVec 16) : IntKind.wrap .u8 (n16 x) = n8 (x.setWidth 8) := by
  rw [wrap_n8]
  refine congrArg _ (BitVec.eq_of_toNat_eq ?_)
  rw [BitVec.toNat_ofInt, BitVec.toNat_setWidth]
  unfold n16
  omega
theorem conv_to_16_8 (x : BitVec 16) : Conv.intToInt .u8 (n16 x) = pure (.int .u8 (n8 (x.setWidth 8))) := by unfold Conv.intToInt; rw [conv_16_8]
attribute [go_sem high] conv_16_8 conv_to_16_8
theorem conv_16_32 (x : BitVec 16) : IntKind.wrap .u32 (n16 x) = n32 (x.setWidth 32) := by
  rw [wrap_n32]
  refine congrArg _ (BitVec.eq_of_toNat_eq ?_)
  rw [BitVec.toNat_ofInt, BitVec.toNat_setWidth]
  unfold n16
  omega
theorem conv_to_16_32 (x : BitVec 16) : Conv.intToInt .u32 (n16 x) = pure (.int .u32 (n32 (x.setWidth 32))) := by unfold Conv.intToInt; rw [conv_16_32]
attribute [go_sem high] conv_16_32 conv_to_16_32
theorem conv_16_64 (x : BitVec 16) : IntKind.wrap .u64 (n16 x) = n64 (x.setWidth 64) := by
  rw [wrap_n64]
  refine congrArg _ (BitVec.eq_of_toNat_eq ?_)
  rw [BitVec.toNat_ofInt, BitVec.toNat_setWidth]
  unfold n16
  omega
theorem conv_to_16_64 (x : BitVec 16) : Conv.intToInt .u64 (n16 x) = pure (.int .u64 (n64 (x.setWidth 64))) := by unfold Conv.intToInt; rw [conv_16_64]
attribute [go_sem high] conv_16_64 conv_to_16_64
theorem conv_32_8 (x : BitVec 32) : IntKind.wrap .u8 (n32 x) = n8 (x.setWidth 8) := by
  rw [wrap_n8]
  refine congrArg _ (BitVec.eq_of_toNat_eq ?_)
  rw [BitVec.toNat_ofInt, BitVec.toNat_setWidth]
  unfold n32
  omega
theorem conv_to_32_8 (x : BitVec 32) : Conv.intToInt .u8 (n32 x) = pure (.int .u8 (n8 (x.setWidth 8))) := by unfold Conv.intToInt; rw [conv_32_8]
attribute [go_sem high] conv_32_8 conv_to_32_8
theorem conv_32_16 (x : BitVec 32) : IntKind.wrap .u16 (n32 x) = n16 (x.setWidth 16) := by
  rw [wrap_n16]
  refine congrArg _ (BitVec.eq_of_toNat_eq ?_)
  rw [BitVec.toNat_ofInt, BitVec.toNat_setWidth]
  unfold n32
  omega
theorem conv_to_32_16 (x : BitVec 32) : Conv.intToInt .u16 (n32 x) = pure (.int .u16 (n16 (x.setWidth 16))) := by unfold Conv.intToInt; rw [conv_32_16]
attribute [go_sem high] conv_32_16 conv_to_32_16
theorem conv_32_64 (x : BitVec 32) : IntKind.wrap .u64 (n32 x) = n64 (x.setWidth 64) := by
  rw [wrap_n64]
  refine congrArg _ (BitVec.eq_of_toNat_eq ?_)
  rw [BitVec.toNat_ofInt, BitVec.toNat_setWidth]
  unfold n32
  omega
theorem conv_to_32_64 (x : BitVec 32) : Conv.intToInt .u64 (n32 x) = pure (.int .u64 (n64 (x.setWidth 64))) := by unfold Conv.intToInt; rw [conv_32_64]
attribute [go_sem high] conv_32_64 conv_to_32_64
theorem conv_64_8 (x : BitVec 64) : IntKind.wrap .u8 (n64 x) = n8 (x.setWidth 8) := by
  rw [wrap_n8]
  refine congrArg _ (BitVec.eq_of_toNat_eq ?_)
  rw [BitVec.toNat_ofInt, BitVec.toNat_setWidth]
  unfold n64
  omega
theorem conv_to_64_8 (x : BitVec 64) : Conv.intToInt .u8 (n64 x) = pure (.int .u8 (n8 (x.setWidth 8))) := by unfold Conv.intToInt; rw [conv_64_8]
attribute [go_sem high] conv_64_8 conv_to_64_8
theorem conv_64_16 (x : BitVec 64) : IntKind.wrap .u16 (n64 x) = n16 (x.setWidth 16) := by
  rw [wrap_n16]
  refine congrArg _ (BitVec.eq_of_toNat_eq ?_)
  rw [BitVec.toNat_ofInt, BitVec.toNat_setWidth]
  unfold n64
  omega
theorem conv_to_64_16 (x : BitVec 64) : Conv.intToInt .u16 (n64 x) = pure (.int .u16 (n16 (x.setWidth 16))) := by unfold Conv.intToInt; rw [conv_64_16]
attribute [go_sem high] conv_64_16 conv_to_64_16
theorem conv_64_32 (x : BitVec 64) : IntKind.wrap .u32 (n64 x) = n32 (x.setWidth 32) := by
  rw [wrap_n32]
  refine congrArg _ (BitVec.eq_of_toNat_eq ?_)
  rw [BitVec.toNat_ofInt, BitVec.toNat_setWidth]
  unfold n64
  omega
theorem conv_to_64_32 (x : BitVec 64) : Conv.intToInt .u32 (n64 x) = pure (.int .u32 (n32 (x.setWidth 32))) := by unfold Conv.intToInt; rw [conv_64_32]
attribute [go_sem high] conv_64_32 conv_to_64_32

attribute [irreducible] n8 n16 n32 n64 ix8 ix16 ix32 ix64
end Go.Proofs.YtddpfbeclmgndaaDoor
