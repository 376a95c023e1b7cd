/-
  THE FIELD OF 2^128 ELEMENTS HAS NO DIVISORS OF NOUGHT; a byte that is changed changes the sum.
-/
import Derived.Test.YtjbpjoondmcnlabDoorMg32
set_option maxRecDepth 100000
namespace Go.Proofs.YtjbpjoondmcnlabDoor
open Go
namespace GF
/-- The product, from the highest coefficient on: 128 steps. -/
def hN (a b : BitVec 128) : Nat → BitVec 128
  | 0 => 0#128
  | k + 1 => xV (hN a b k) ^^^ (if a.getLsbD (127 - k) then b else 0#128)
theorem hN_add (a c b : BitVec 128) (k : Nat) : hN (a ^^^ c) b k = hN a b k ^^^ hN c b k := by
  induction k with
  | zero => simp [hN]
  | succ k ih => rw [hN, hN, hN, ih, xV_add, BitVec.getLsbD_xor, ite_add, xor_swap]
theorem hN_none (b : BitVec 128) (k : Nat) : hN 0#128 b k = 0#128 := by
  induction k with
  | zero => rfl
  | succ k ih => rw [hN, ih, xV_zero]; simp
theorem hN_one (i : Nat) (hi : i < 128) (b : BitVec 128) (k : Nat) (hk : k ≤ 128) : hN (1#128 <<< i) b k = if 128 ≤ k + i then xVp b (k + i - 128) else 0#128 := by
  induction k with
  | zero => rw [if_neg (by omega)]; rfl
  | succ k ih =>
    rw [hN, ih (by omega), one_bit _ _ hi]
    by_cases h1 : 127 - k = i
    · rw [if_neg (show ¬ 128 ≤ k + i by omega), if_pos (show 128 ≤ k + 1 + i by omega), show k + 1 + i - 128 = 0 by omega, show decide (127 - k = i) = true by simp [h1]]
      simp [xV_zero, xVp]
    · rw [show decide (127 - k = i) = false by simp [h1]]
      by_cases h2 : 128 ≤ k + i
      · rw [if_pos h2, if_pos (show 128 ≤ k + 1 + i by omega), show k + 1 + i - 128 = k + i - 128 + 1 by omega, xVp]
        simp
      · rw [if_neg h2, if_neg (show ¬ 128 ≤ k + 1 + i by omega)]
        simp [xV_zero]
theorem hN_mul (a b : BitVec 128) : hN a b 128 = mulV a b := by
  refine basis (fun a => hN a b 128 = mulV a b) ?_ ?_ ?_ a
  · show hN _ _ _ = _
    rw [hN_none, zero_mul]
  · intro i hi
    show hN _ _ _ = _
    rw [hN_one i hi b 128 (Nat.le_refl _), if_pos (by omega), one_mul' i hi, show 128 + i - 128 = i by omega]
  · intro c d h1 h2
    show hN _ _ _ = _
    rw [hN_add, mul_addL, h1, h2]
theorem one_mul (b : BitVec 128) : mulV 1#128 b = b := by
  have h := one_mul' 0 (by omega) b
  exact h
def sq (y : BitVec 128) : BitVec 128 := mulV y y
def sqn : Nat → BitVec 128 → BitVec 128
  | 0, y => y
  | n + 1, y => sq (sqn n y)
def sqh : Nat → BitVec 128 → BitVec 128
  | 0, y => y
  | n + 1, y => hN (sqh n y) (sqh n y) 128
theorem sqh_eq (n : Nat) (y : BitVec 128) : sqh n y = sqn n y := by
  induction n with
  | zero => rfl
  | succ n ih => rw [sqh, sqn, ih, hN_mul]; rfl
theorem sq_add (a b : BitVec 128) : sq (a ^^^ b) = sq a ^^^ sq b := by
  unfold sq
  rw [mul_addL, mul_addR, mul_addR, mul_comm' b a, BitVec.xor_assoc, ← BitVec.xor_assoc (mulV a b), BitVec.xor_self, BitVec.zero_xor]
theorem mul_mul (a b c d : BitVec 128) : mulV (mulV a b) (mulV c d) = mulV (mulV a c) (mulV b d) := by
  rw [mul_assoc', mul_assoc', ← mul_assoc' b, ← mul_assoc' c, mul_comm' b c]
theorem sq_mul (a b : BitVec 128) : sq (mulV a b) = mulV (sq a) (sq b) := mul_mul a b a b
theorem sqn_add (n : Nat) (a b : BitVec 128) : sqn n (a ^^^ b) = sqn n a ^^^ sqn n b := by
  induction n with
  | zero => rfl
  | succ n ih => rw [sqn, sqn, sqn, ih, sq_add]
theorem sqn_mul (n : Nat) (a b : BitVec 128) : sqn n (mulV a b) = mulV (sqn n a) (sqn n b) := by
  induction n with
  | zero => rfl
  | succ n ih => rw [sqn, sqn, sqn, ih, sq_mul]
theorem sqn_zero (n : Nat) : sqn n 0#128 = 0#128 := by
  induction n with
  | zero => rfl
  | succ n ih => rw [sqn, ih, sq, zero_mul]
theorem sqn_one (n : Nat) : sqn n 1#128 = 1#128 := by
  induction n with
  | zero => rfl
  | succ n ih => rw [sqn, ih, sq, one_mul]
theorem sqh_two : sqh 128 2#128 = 2#128 := by decide +kernel
theorem two_mul (k : Nat) (hk : k < 127) : (1#128 <<< (k + 1)) = mulV 2#128 (1#128 <<< k) := by
  have h := one_mul' 1 (by omega) (1#128 <<< k)
  rw [show (1#128 <<< 1) = 2#128 by decide] at h
  rw [h, ← xVp_one ⟨k + 1, by omega⟩, ← xVp_one ⟨k, by omega⟩]
  rfl
/-- Squared 128 times each thing is itself. -/
theorem sqn_all (y : BitVec 128) : sqn 128 y = y := by
  refine basis (fun y => sqn 128 y = y) (sqn_zero _) ?_ ?_ y
  · intro i hi
    show sqn _ _ = _
    induction i with
    | zero => exact sqn_one 128
    | succ i ih => rw [two_mul i (by omega), sqn_mul, ih (by omega), ← sqh_eq, sqh_two]
  · intro a b h1 h2
    show sqn _ _ = _
    rw [sqn_add, h1, h2]
def lrows : Array (BitVec 128) := #[
  0x295AC0B1F4731AF9676AAC9FA4B20B08#128, 0xE5DA5595EE970B89929959AF766AF404#128, 0xE5DA5595EE970B89929959AF766AF406#128, 0x4E9826C74350BFE67783F7333404A20C#128,
  0xE5DA5595EE970B89929959AF766AF402#128, 0x2AAEA79AD7DA34B07DC714CB83074E6A#128, 0x4E9826C74350BFE67783F7333404A204#128, 0xCC8095241AE41171F5F3F531D2D9FE18#128,
  0xE5DA5595EE970B89929959AF766AF412#128, 0x4E983687D159CE9677CB862E8AC85B44#128, 0x2AAEA79AD7DA34B07DC714CB83074E4A#128, 0xAAE2AB6AAF144AAFF73FCB3C06AAFF56#128,
  0x4E9826C74350BFE67783F7333404A244#128, 0xE62F327CCD5792DD893FE9CA40603F62#128, 0xCC8095241AE41171F5F3F531D2D9FE98#128, 0xAB52F0323F47C90BE1336BC7D453B626#128,
  0xE5DA5595EE970B89929959AF766AF512#128, 0x2ABE34BAD75338B479A6A089ABF4573A#128, 0x4E983687D159CE9677CB862E8AC85944#128, 0x1E8CCB9DCC72F2E1A9CBEF8232562FC#128,
  0x2AAEA79AD7DA34B07DC714CB83074A4A#128, 0x2442C3221F3DC1A0CE869B24A80E48C#128, 0xAAE2AB6AAF144AAFF73FCB3C06AAF756#128, 0xCF64612F39C4323DEB3FF936DD9AA228#128,
  0x4E9826C74350BFE67783F7333404B244#128, 0xCC911696880D4909F0D5382A57572458#128, 0xE62F327CCD5792DD893FE9CA40601F62#128, 0x4D7CD7CC29D28CF2697F6478E5DB2834#128,
  0xCC8095241AE41171F5F3F531D2D9BE98#128, 0xCCC99127569146A7FC0956CA1A5B86A4#128, 0xAB52F0323F47C90BE1336BC7D4533626#128, 0x65CECE94DACD5B1C14F5986B001EEB82#128,
  0xE5DA5595EE970B89929959AF766BF512#128, 0x2B0E7FA2D509CA746FE27169C7C3E73A#128, 0x2ABE34BAD75338B479A6A089ABF6573A#128, 0x65DF4D264824132411D3553885980142#128,
  0x4E983687D159CE9677CB862E8ACC5944#128, 0xCF74F70E70EF2AF7EF6FD21D2AF671A4#128, 0x1E8CCB9DCC72F2E1A9CBEF8232D62FC#128, 0xCEC4B9173B16CDF9F91A9D8499490F58#128,
  0x2AAEA79AD7DA34B07DC714CB83174A4A#128, 0x83F16F99175F624799A6CF206B513BDC#128, 0x2442C3221F3DC1A0CE869B24AA0E48C#128, 0x3F562A96A2AA9081B9E27EBE84671C0#128,
  0xAAE2AB6AAF144AAFF73FCB3C06EAF756#128, 0xCCC9C07AE11BCCE3FCD6D526CDDEEBD4#128, 0xCF64612F39C4323DEB3FF936DD1AA228#128, 0xA95FC803C09556F7E461DFEBE8467196#128,
  0x4E9826C74350BFE67783F7333504B244#128, 0x4CDC1AB0F0AB5B2E7B20EE03C15C7384#128, 0xCC911696880D4909F0D5382A55572458#128, 0xAABA68961DA11D79FB48C8C7FE68CF6A#128,
  0xE62F327CCD5792DD893FE9CA44601F62#128, 0xE5DB5416EE209847938B5C70638D3BEE#128, 0x4D7CD7CC29D28CF2697F6478EDDB2834#128, 0x6437818B95E2E76E0B49FA26A7E512CE#128,
  0xCC8095241AE41171F5F3F531C2D9BE98#128, 0x4CD9020746184BA27868A299022DDF34#128, 0xCCC99127569146A7FC0956CA3A5B86A4#128, 0x824171DCEFBE4A8B8F1D24E407E8E76C#128,
  0xAB52F0323F47C90BE1336BC794533626#128, 0xE62E22AF1F6BF32B88711E202CDC3B5E#128, 0x65CECE94DACD5B1C14F5986B801EEB82#128, 0x83F4672B23A92E499AADB85427B54520#128,
  0xE5DA5595EE970B89929959AE766BF512#128, 0x1040920971720048711DBECCF94C#128, 0x2B0E7FA2D509CA746FE2716BC7C3E73A#128, 0x81EDD40A7A7437CB99D6B267D0D7976C#128,
  0x2ABE34BAD75338B479A6A08DABF6573A#128, 0xE46A1E8DECCDF96D84DD884D1A5D4462#128, 0x65DF4D264824132411D3553085980142#128, 0x804C1CB1EAC70F698AB1AEEB3A605920#128,
  0x4E983687D159CE9677CB863E8ACC5944#128, 0xA94F4B3252499E01E04514377DBD55AA#128, 0xCF74F70E70EF2AF7EF6FD23D2AF671A4#128, 0xE7D77DA5831189D3978A93F3F56F619E#128,
  0x1E8CCB9DCC72F2E1A9CBEB8232D62FC#128, 0x4CDD0F362B68E52A7A5109EAB0A16EF4#128, 0xCEC4B9173B16CDF9F91A9D0499490F58#128, 0xE4329C3D7BF233698830781E88D05912#128,
  0x2AAEA79AD7DA34B07DC715CB83174A4A#128, 0x82082082597387418618BCBFCFF334E0#128, 0x83F16F99175F624799A6CD206B513BDC#128, 0x294B124ED1181A846297E291F4ADCC3A#128,
  0x2442C3221F3DC1A0CE86DB24AA0E48C#128, 0xE78FFF41144664939B696B666550119E#128, 0x3F562A96A2AA9081B9E2FEBE84671C0#128, 0xCD78DBFD54A1436BEB568D9E63D55A14#128,
  0xAAE2AB6AAF144AAFF73FDB3C06EAF756#128, 0xCCDD4E7B1CE38D0FFACABBBEED722B64#128, 0xCCC9C07AE11BCCE3FCD6F526CDDEEBD4#128, 0x3E5E1CCB1BF89C61FB4754FA43BBF3C#128,
  0xCF64612F39C4323DEB3FB936DD1AA228#128, 0xE5DA00893461B455926F68F4172CAEA2#128, 0xA95FC803C09556F7E4615FEBE8467196#128, 0xE78AE2A77B3E87B1981CF1DCCB9D1FD2#128,
  0x4E9826C74350BFE67782F7333504B244#128, 0x2912D4222A675B0A6FD777B6C15F72C6#128, 0x4CDC1AB0F0AB5B2E7B22EE03C15C7384#128, 0xE7D6682E58D237F196F8740F85956FD2#128,
  0xCC911696880D4909F0D1382A55572458#128, 0xAB4366B0764A0B4BE46143C933474626#128, 0xAABA68961DA11D79FB40C8C7FE68CF6A#128, 0xE7D77D718378AEB397849BB7F7DE0D9E#128,
  0xE62F327CCD5792DD892FE9CA44601F62#128, 0x64231D9EFB5729D60D13F9BD382E380E#128, 0xE5DB5416EE20984793AB5C70638D3BEE#128, 0x81B51AB7A5FE1499959811BD9A557220#128,
  0x4D7CD7CC29D28CF2693F6478EDDB2834#128, 0x295AB4BB43072C12678A4EE975A08406#128, 0x6437818B95E2E76E0BC9FA26A7E512CE#128, 0xAB0EEAD38EB165EBEF9E1ACD25989A26#128,
  0xCC8095241AE41171F4F3F531C2D9BE98#128, 0x3BA7996DB230C0010185B9B29B00000#128, 0x4CD9020746184BA27A68A299022DDF34#128, 0x8210932010890D058261F45338765990#128,
  0xCCC99127569146A7F80956CA3A5B86A4#128, 0x2A88E0FBB92F0C2C7F14722E3DB361FA#128, 0x824171DCEFBE4A8B871D24E407E8E76C#128, 0x29B11E87B8989FD86FB067F47D17578A#128,
  0xAB52F0323F47C90BF1336BC794533626#128, 0x0#128, 0xE62E22AF1F6BF32BA8711E202CDC3B5E#128, 0x862E22AF1F6BF32BA8711E202CDC3B6C#128,
  0x65CECE94DACD5B1C54F5986B801EEB82#128, 0x8E8CBDC6770AEF73B1EF36F7C270BDAC#128, 0x83F4672B23A92E491AADB85427B54520#128, 0x38B21C09FAE1613C0DB7ED8C3891E6FA#128]
def lmap (c : BitVec 128) : BitVec 128 := sumN c (fun i => lrows.getD i 0#128) 128
theorem lmap_add (a b : BitVec 128) : lmap (a ^^^ b) = lmap a ^^^ lmap b := sumN_add _ _ _ _
theorem lmap_zero : lmap 0#128 = 0#128 := sumN_none _ _
theorem lmap_one : ∀ i : Fin 128, lmap (hN (1#128 <<< i.1) (1#128 <<< i.1) 128 ^^^ 1#128 <<< i.1) = 1#128 <<< i.1 ^^^ (if (1#128 <<< i.1).getLsbD 0 then 1#128 else 0#128) := by decide +kernel
theorem lmap_all (y : BitVec 128) : lmap (sq y ^^^ y) = y ^^^ (if y.getLsbD 0 then 1#128 else 0#128) := by
  refine basis (fun y => lmap (sq y ^^^ y) = y ^^^ (if y.getLsbD 0 then 1#128 else 0#128)) ?_ ?_ ?_ y
  · show lmap _ = _
    rw [sq, zero_mul, BitVec.xor_zero, lmap_zero]
    simp
  · intro i hi
    show lmap _ = _
    rw [sq, ← hN_mul]
    exact lmap_one ⟨i, hi⟩
  · intro a b h1 h2
    show lmap _ = _
    rw [sq_add, xor_swap, lmap_add, h1, h2, BitVec.getLsbD_xor, ite_add, xor_swap]
/-- What is its own square is nought or one. -/
theorem sq_self (y : BitVec 128) (h : sq y = y) : y = 0#128 ∨ y = 1#128 := by
  have e := lmap_all y
  rw [h, BitVec.xor_self, lmap_zero] at e
  have e2 : y = if y.getLsbD 0 then 1#128 else 0#128 := by
    have := congrArg (fun z => z ^^^ (if y.getLsbD 0 then 1#128 else 0#128)) e
    rw [BitVec.zero_xor, BitVec.xor_assoc, BitVec.xor_self, BitVec.xor_zero] at this
    exact this.symm
  cases hb : y.getLsbD 0 with
  | false => rw [hb] at e2; exact .inl (by simpa using e2)
  | true => rw [hb] at e2; exact .inr (by simpa using e2)
def nrm : Nat → BitVec 128 → BitVec 128
  | 0, _ => 1#128
  | k + 1, y => mulV (nrm k y) (sqn k y)
theorem nrm_mul (k : Nat) (y : BitVec 128) : mulV (nrm k y) y = sqn k y := by
  induction k with
  | zero => exact one_mul y
  | succ k ih => rw [nrm, mul_assoc', mul_comm' (sqn k y) y, ← mul_assoc', ih]; rfl
theorem nrm_has (k : Nat) (y : BitVec 128) : ∃ m, nrm (k + 1) y = mulV m y := by
  induction k with
  | zero => exact ⟨1#128, rfl⟩
  | succ k ih =>
    obtain ⟨m, h⟩ := ih
    exact ⟨mulV m (sqn (k + 1) y), by rw [nrm, h, mul_assoc', mul_assoc', mul_comm' y]⟩
/-- All but nought has an inverse. -/
theorem inv_of (y : BitVec 128) (h : y ≠ 0#128) : ∃ m, mulV m y = 1#128 := by
  obtain ⟨m, hm⟩ := nrm_has 127 y
  have h1 : mulV (nrm 128 y) y = y := by rw [nrm_mul, sqn_all]
  have h2 : sq (nrm 128 y) = nrm 128 y := by
    unfold sq
    rw [show mulV (nrm 128 y) (nrm 128 y) = mulV (nrm 128 y) (mulV m y) by rw [← hm], mul_comm' m y, ← mul_assoc', h1, mul_comm' y m, ← hm]
  rcases sq_self _ h2 with h0 | h0
  · rw [h0, zero_mul] at h1
    exact absurd h1.symm h
  · exact ⟨m, by rw [← hm, h0]⟩
theorem cancel (a b h : BitVec 128) (h0 : h ≠ 0#128) (e : mulV a h = mulV b h) : a = b := by
  obtain ⟨m, hm⟩ := inv_of h h0
  have e2 : mulV (mulV a h) m = mulV (mulV b h) m := by rw [e]
  rw [mul_assoc', mul_assoc', mul_comm' h m, hm, mul_comm' a, mul_comm' b, one_mul, one_mul] at e2
  exact e2
end GF
theorem mul2_cancel (a b h : W2) (h0 : h ≠ ⟨0#64, 0#64⟩) (e : W2.mul a h = W2.mul b h) : a = b := by
  apply poly_inj
  refine GF.cancel _ _ h.poly (fun hz => h0 (poly_inj _ _ (by rw [hz, poly_zero]))) ?_
  rw [← mul_poly, ← mul_poly, e]
theorem xor2_cancel (a b c : W2) (e : W2.xor a c = W2.xor b c) : a = b := by
  apply poly_inj
  have h := congrArg W2.poly e
  rw [poly_xor, poly_xor] at h
  have h2 := congrArg (fun z => z ^^^ c.poly) h
  rw [BitVec.xor_assoc, BitVec.xor_assoc, BitVec.xor_self, BitVec.xor_zero, BitVec.xor_zero] at h2
  exact h2
theorem xor2_comm (a b : W2) : W2.xor a b = W2.xor b a := by
  apply poly_inj
  rw [poly_xor, poly_xor, BitVec.xor_comm]
theorem sumK_inj (h r r' : W2) (f g : Nat → BitVec 8) (k : Nat) (h0 : h ≠ ⟨0#64, 0#64⟩) (e : ∀ i, i < 16 * k → f i = g i) (hs : sumK h r f k = sumK h r' g k) : r = r' := by
  induction k with
  | zero => exact hs
  | succ k ih =>
    refine ih (fun i hi => e i (by omega)) ?_
    rw [sumK, sumK] at hs
    have h1 := mul2_cancel _ _ _ h0 hs
    rw [of2_congr (fun i => f (16 * k + i)) (fun i => g (16 * k + i)) (fun i hi => e _ (by omega))] at h1
    exact xor2_cancel _ _ _ h1
theorem of2_ne (f g : Nat → BitVec 8) (j : Nat) (hj : j < 16) (hne : f j ≠ g j) : W2.of f ≠ W2.of g := fun e => hne (by rw [← w2_byte_of f j hj, ← w2_byte_of g j hj, e])
theorem sumK_ne (h r : W2) (f g : Nat → BitVec 8) (k j : Nat) (h0 : h ≠ ⟨0#64, 0#64⟩) (hj : j < 16 * k) (hne : f j ≠ g j) (e : ∀ i, i ≠ j → f i = g i) : sumK h r f k ≠ sumK h r g k := by
  intro hs
  obtain ⟨b, hb⟩ : ∃ b, b = j / 16 := ⟨_, rfl⟩
  obtain ⟨d, rfl⟩ : ∃ d, k = (b + 1) + d := ⟨k - (b + 1), by omega⟩
  rw [sumK_add h r f (b + 1) d, sumK_add h r g (b + 1) d] at hs
  have h1 := sumK_inj h _ _ _ _ _ h0 (fun i hi => e (16 * (b + 1) + i) (by omega)) hs
  rw [sumK, sumK] at h1
  have h2 := mul2_cancel _ _ _ h0 h1
  rw [sumK_congr h r f g b (fun i hi => e _ (by omega)), xor2_comm, xor2_comm (sumK h r g b)] at h2
  have h3 := xor2_cancel _ _ _ h2
  refine of2_ne _ _ (j - 16 * b) (by omega) ?_ h3
  show f (16 * b + (j - 16 * b)) ≠ g (16 * b + (j - 16 * b))
  rw [show 16 * b + (j - 16 * b) = j by omega]
  exact hne
theorem sumB_ne (h r : W2) (f g : Nat → BitVec 8) (n j : Nat) (h0 : h ≠ ⟨0#64, 0#64⟩) (hj : j < n) (hne : f j ≠ g j) (e : ∀ i, i ≠ j → f i = g i) : sumGB h r f n ≠ sumGB h r g n := by
  rw [sumB_K, sumB_K]
  refine sumK_ne h r _ _ _ j h0 (by unfold blocksOf; omega) ?_ (fun i hi => ?_)
  · unfold padF
    rw [if_pos hj, if_pos hj]
    exact hne
  · unfold padF
    rw [e i hi]
theorem sumB_inj (h r r' : W2) (f : Nat → BitVec 8) (n : Nat) (h0 : h ≠ ⟨0#64, 0#64⟩) (hs : sumGB h r f n = sumGB h r' f n) : r = r' := by
  rw [sumB_K, sumB_K] at hs
  exact sumK_inj h r r' _ _ _ h0 (fun _ _ => rfl) hs
theorem tag_inj (ks : Nat → BitVec 32) (h : W2) (f g g' : Nat → BitVec 8) (n : Nat) (u u' : Nat → BitVec 8) (m : Nat) (h0 : h ≠ ⟨0#64, 0#64⟩) (e : tagW ks h f g n u m = tagW ks h f g' n u' m) :
    sumGB h (sumGB h ⟨0#64, 0#64⟩ g n) u m = sumGB h (sumGB h ⟨0#64, 0#64⟩ g' n) u' m := by
  unfold tagW at e
  exact xor2_cancel _ _ _ (mul2_cancel _ _ _ h0 (xor2_cancel _ _ _ e))
theorem byte_eq (x y : W2) (h : ∀ i, i < 16 → x.byte i = y.byte i) : x = y := by
  rw [← w2_of_byte x, ← w2_of_byte y, of2_congr _ _ h]
theorem openE_iff (ks : Nat → BitVec 32) (h : W2) (f g : Nat → BitVec 8) (n : Nat) (xs : Nat → BitVec 8) (m : Nat) : openE ks h f g n xs m = true ↔ ∀ i, i < 16 → (tagW ks h f g n xs m).byte i = xs (m + i) := by
  unfold openE
  rw [beq_iff_eq, accD_zero]
theorem sealF_hi (ks : Nat → BitVec 32) (h : W2) (f g : Nat → BitVec 8) (n : Nat) (xs : Nat → BitVec 8) (m i : Nat) : sealF ks h f g n xs m (m + i) = (tagW ks h f g n (hid ks f xs) m).byte i := by
  unfold sealF joinb
  rw [if_neg (by omega), show m + i - m = i by omega]
/-- A byte of what was sealed is changed: nothing is opened. -/
theorem spoilt_seal (ks : Nat → BitVec 32) (h : W2) (f g : Nat → BitVec 8) (n : Nat) (xs : Nat → BitVec 8) (m k : Nat) (h0 : h ≠ ⟨0#64, 0#64⟩) (hk : k < m + 16) (x : BitVec 8) (hx : x ≠ sealF ks h f g n xs m k) :
    openE ks h f g n (updb (sealF ks h f g n xs m) k x) m = false := by
  rw [Bool.eq_false_iff]
  intro hE
  rw [openE_iff] at hE
  have hst : ∀ i, i ≠ k → updb (sealF ks h f g n xs m) k x i = sealF ks h f g n xs m i := fun i hi => by rw [updb, if_neg hi]
  have hch : updb (sealF ks h f g n xs m) k x k = x := by rw [updb, if_pos rfl]
  by_cases hkm : k < m
  · have e : tagW ks h f g n (updb (sealF ks h f g n xs m) k x) m = tagW ks h f g n (sealF ks h f g n xs m) m := by
      rw [tagW_congr ks h f g n (sealF ks h f g n xs m) (hid ks f xs) m (fun i hi => sealF_lo ks h f g n xs m i hi)]
      refine byte_eq _ _ (fun i hi => ?_)
      rw [hE i hi, hst _ (by omega), sealF_hi]
    exact sumB_ne h _ _ _ m k h0 hkm (by rw [hch]; exact hx) hst (tag_inj ks h f g g n _ _ m h0 e)
  · have e : tagW ks h f g n (updb (sealF ks h f g n xs m) k x) m = tagW ks h f g n (hid ks f xs) m := by
      rw [tagW_congr ks h f g n (updb (sealF ks h f g n xs m) k x) (hid ks f xs) m (fun i hi => by rw [hst _ (by omega)]; exact sealF_lo ks h f g n xs m i hi)]
    have h1 := hE (k - m) (by omega)
    rw [e, show m + (k - m) = k by omega, hch] at h1
    apply hx
    have h2 := sealF_hi ks h f g n xs m (k - m)
    rw [show m + (k - m) = k by omega] at h2
    rw [h2, h1]
/-- A byte beside is changed: nothing is opened. -/
theorem spoilt_side (ks : Nat → BitVec 32) (h : W2) (f g : Nat → BitVec 8) (n : Nat) (xs : Nat → BitVec 8) (m k : Nat) (h0 : h ≠ ⟨0#64, 0#64⟩) (hk : k < n) (x : BitVec 8) (hx : x ≠ g k) :
    openE ks h f (updb g k x) n (sealF ks h f g n xs m) m = false := by
  rw [Bool.eq_false_iff]
  intro hE
  rw [openE_iff] at hE
  have e : tagW ks h f (updb g k x) n (sealF ks h f g n xs m) m = tagW ks h f g n (sealF ks h f g n xs m) m := by
    rw [tagW_congr ks h f g n (sealF ks h f g n xs m) (hid ks f xs) m (fun i hi => sealF_lo ks h f g n xs m i hi)]
    refine byte_eq _ _ (fun i hi => ?_)
    rw [hE i hi, sealF_hi]
  have h1 := sumB_inj h _ _ _ m h0 (tag_inj ks h f _ g n _ _ m h0 e)
  exact sumB_ne h _ _ _ n k h0 hk (by rw [updb, if_pos rfl]; exact hx) (fun i hi => by rw [updb, if_neg hi]) h1
end Go.Proofs.YtjbpjoondmcnlabDoor
