/-
  guard's small calls: what may be a number, whether keys are whole, a first byte hidden, what bytes tell.
-/
import Derived.Test.YtjbpjoondmcnlabDoorShaS
import Derived.Test.YtjbpjoondmcnlabDoorOwnZ
import Derived.Test.YtjbpjoondmcnlabDoorMg07
import Derived.Test.YtjbpjoondmcnlabDoorMg04
namespace Go.Proofs.YtjbpjoondmcnlabDoor
open Go Go.RowKit Go.BigFrame
set_option linter.unusedSimpArgs false
set_option linter.unusedVariables false
set_option maxRecDepth 100000
def lastN : Int := 4611686018427387903
theorem numbers_any (n : Int) (w : World) : Calls Tryd.prog 35 #[.int .i64 n] w fun e w' => e = .returned (.bool (decide (0 ≤ n ∧ n ≤ 4611686018427387903))) ∧ w = w' := by
  by_cases h : 0 ≤ n ∧ n ≤ 4611686018427387903
  · obtain ⟨h1, h2⟩ := h
    rw [decide_eq_true (show 0 ≤ n ∧ n ≤ 4611686018427387903 from ⟨h1, h2⟩)]
    go_enter Tryd.func35, Tryd.ntmps35
    go_wp2_with fail
    go_ret
    exact ⟨rfl, rfl⟩
  · rw [decide_eq_false h]
    by_cases h1 : 0 ≤ n
    · have h2 : ¬ n ≤ 4611686018427387903 := fun h2 => h ⟨h1, h2⟩
      go_enter Tryd.func35, Tryd.ntmps35
      go_wp2_with fail
      go_ret
      exact ⟨rfl, rfl⟩
    · go_enter Tryd.func35, Tryd.ntmps35
      go_wp2_with fail
      go_ret
      exact ⟨rfl, rfl⟩
def kysC (K I M : ByteArray) : Array Value := #[.string K, .string I, .string M]
theorem kys_cells {w : World} {b : Nat} {T : TypeId} {K I M : ByteArray} (h : w.heap[b]? = some (.cells (kysC K I M) T (0, 0))) :
    w.cell? ⟨b, 0, none⟩ = some (.string K) ∧ w.cell? ⟨b, 1, none⟩ = some (.string I) ∧ w.cell? ⟨b, 2, none⟩ = some (.string M) :=
  ⟨by rw [cell_of_row _ _ _ _ _ _ h]; rfl, by rw [cell_of_row _ _ _ _ _ _ h]; rfl, by rw [cell_of_row _ _ _ _ _ _ h]; rfl⟩
theorem whole_any (K I M : ByteArray) (k i m : Nat) (hK : K.size = k) (hI : I.size = i) (hM : M.size = m) (w : World) :
    Calls Tryd.prog 36 #[.agg (kysC K I M)] w fun e w' => e = .returned (.bool (decide (k = 16 ∧ i = 12 ∧ m = 16))) ∧ Below w.heap.size w w' := by
  have R0 : (w.alloc (.cells (kysC K I M) 34)).heap[w.heap.size]? = some (.cells (kysC K I M) 34 (0, 0)) := heap_alloc_last _ _
  have HB := Lib.hid ((Below.refl w.heap.size w).alloc (Nat.le_refl _) (.cells (kysC K I M) 34))
  obtain ⟨c0, c1, c2⟩ := kys_cells R0
  clear R0
  unfold kysC at *
  by_cases h1 : k = 16
  · by_cases h2 : i = 12
    · by_cases h3 : m = 16
      · rw [decide_eq_true (show k = 16 ∧ i = 12 ∧ m = 16 from ⟨h1, h2, h3⟩)]
        subst h1 h2 h3
        go_enter Tryd.func36, Tryd.ntmps36
        go_wp2_with fail
        go_ret
        exact ⟨rfl, HB.out⟩
      · rw [decide_eq_false (fun h => h3 h.2.2)]
        subst h1 h2
        have e3 : ((m : Int) == 16) = false := beq_eq_false_iff_ne.2 (by omega)
        go_enter Tryd.func36, Tryd.ntmps36
        go_wp2_with fail
        go_ret
        exact ⟨rfl, HB.out⟩
    · rw [decide_eq_false (fun h => h2 h.2.1)]
      subst h1
      have e2 : ((i : Int) == 12) = false := beq_eq_false_iff_ne.2 (by omega)
      go_enter Tryd.func36, Tryd.ntmps36
      go_wp2_with fail
      go_ret
      exact ⟨rfl, HB.out⟩
  · rw [decide_eq_false (fun h => h1 h.1)]
    have e1 : ((k : Int) == 16) = false := beq_eq_false_iff_ne.2 (by omega)
    go_enter Tryd.func36, Tryd.ntmps36
    go_wp2_with fail
    go_ret
    exact ⟨rfl, HB.out⟩
/-- A first byte, hidden by a mask's. -/
def veilF (x m : BitVec 8) : BitVec 8 := if x &&& 128#8 = 0#8 then x ^^^ (m &&& 31#8) else x ^^^ (m &&& 15#8)
theorem n8_zero_iff (x : BitVec 8) : n8 x = 0 ↔ x = 0#8 := by
  rw [n8_nat]
  constructor
  · intro h; apply BitVec.eq_of_toNat_eq; have : x.toNat = 0 := by omega
    rw [this]; rfl
  · rintro rfl; rfl
theorem veiled_any (x m : BitVec 8) (w : World) : Calls Tryd.prog 31 #[.int .u8 (n8 x), .int .u8 (n8 m)] w fun e w' => e = .returned (.int .u8 (n8 (veilF x m))) ∧ w = w' := by
  unfold veilF
  by_cases h : x &&& 128#8 = 0#8
  · rw [if_pos h]
    have h1 : n8 (x &&& 128#8) = 0 := (n8_zero_iff _).2 h
    have hz : n8 0#8 = 0 := (n8_zero_iff _).2 rfl
    go_enter Tryd.func31, Tryd.ntmps31
    go_wp2_with fail
    go_ret
    exact ⟨rfl, rfl⟩
  · rw [if_neg h]
    have h1 : ¬ n8 (x &&& 128#8) = 0 := fun h2 => h ((n8_zero_iff _).1 h2)
    go_enter Tryd.func31, Tryd.ntmps31
    go_wp2_with fail
    go_ret
    exact ⟨rfl, rfl⟩
def numG (g : Nat → BitVec 8) : Nat → Nat
  | 0 => 0
  | m + 1 => numG g m * 256 + (g m).toNat
theorem numG_lt (g : Nat → BitVec 8) : ∀ m, numG g m < 256 ^ m
  | 0 => by simp [numG]
  | m + 1 => by
    have h := numG_lt g m
    have h2 := (g m).isLt
    show numG g m * 256 + (g m).toNat < 256 ^ m * 256
    omega
theorem or_byte (x : Nat) (y : BitVec 8) (hx : x < 4294967296) : bits .or .i64 (wrap64 ((x : Int) * 256)) (wrap64 (n8 y)) = ((x * 256 + y.toNat : Nat) : Int) := by
  have hy := y.isLt
  have e1 : wrap64 ((x : Int) * 256) = ((x * 256 : Nat) : Int) := by unfold wrap64; omega
  have e2 : wrap64 (n8 y) = (y.toNat : Int) := by rw [n8_nat]; unfold wrap64; omega
  rw [e1, e2]
  show IntKind.wrap .i64 _ = _
  have e3 : (BitVec.ofInt (IntKind.bits .i64) ((x * 256 : Nat) : Int) ||| BitVec.ofInt (IntKind.bits .i64) (y.toNat : Int)).toNat = x * 256 + y.toNat := by
    show (BitVec.ofInt 64 ((x * 256 : Nat) : Int) ||| BitVec.ofInt 64 (y.toNat : Int)).toNat = _
    rw [BitVec.toNat_or, BitVec.toNat_ofInt, BitVec.toNat_ofInt]
    rw [show (((x * 256 : Nat) : Int) % ((2 ^ 64 : Nat) : Int)).toNat = x <<< 8 by rw [Nat.shiftLeft_eq]; omega, show ((y.toNat : Int) % ((2 ^ 64 : Nat) : Int)).toNat = y.toNat by omega]
    rw [← Nat.shiftLeft_add_eq_or_of_lt (by omega), Nat.shiftLeft_eq]
  rw [e3]
  simp only [IntKind.wrap, IntKind.bits, IntKind.signed]
  simp
  omega
theorem or_number (g : Nat → BitVec 8) (k : Nat) (hk : k ≤ 3) : bits .or .i64 (wrap64 (((numG g k : Nat) : Int) * 256)) (wrap64 (n8 (g k))) = ((numG g (k + 1) : Nat) : Int) := by
  have h := numG_lt g k
  have h2 : 256 ^ k ≤ 256 ^ 3 := Nat.pow_le_pow_right (by omega) hk
  exact or_byte (numG g k) (g k) (by omega)
set_option maxHeartbeats 4000000 in
theorem valueOf_any (a : Option Addr) (m c : Nat) (f : Nat → BitVec 8) (hm : m ≤ 4) (w : World) (h : BytesIn w a m f) :
    Calls Tryd.prog 39 #[.slice a m c] w fun e w' => e = .returned (.int .i64 ((numG f m : Nat) : Int)) ∧ w = w' := by
  have H := Lib.hid h
  clear h
  go_enter Tryd.func39, Tryd.ntmps39
  go_wp2_with fail
  go_loopw [3, 5, 8] (fun s3 s5 s8 wr => ∃ k : Nat, k ≤ m ∧ s8 = .int .i64 (k : Int) ∧ s3 = .int .i64 ((numG f k : Nat) : Int) ∧ w = wr) (fun _ _ s8 _ => m - (intOf s8).toNat)
  case atStart => exact ⟨0, by omega, rfl, rfl, rfl⟩
  case round =>
    obtain ⟨k, hk, rfl, rfl, rfl⟩ := hrel
    by_cases hlt : k < m
    · have hlI : (k : Int) < (m : Int) := by omega
      obtain ⟨_, h0 | ⟨b, o, rfl, hb, hc⟩⟩ := H.out
      · omega
      have k1 := hc k hlt
      have hor := or_number f k (by omega)
      have hw : wrap64 (((numG f k : Nat) : Int) * 256) = ((numG f k : Nat) : Int) * 256 := by
        have h := numG_lt f k
        have h2 : 256 ^ k ≤ 256 ^ 3 := Nat.pow_le_pow_right (by omega) (by omega)
        unfold wrap64; omega
      clear hc
      rw [hw] at hor
      generalize numG f k = A at *
      go_wp2_with fail
      go_roundw
      case rel => exact ⟨k + 1, by omega, by go_num, by first | rfl | exact congrArg (Value.int .i64) hor, trivial⟩
      case measure => (simp [intOf] <;> omega)
    · obtain rfl : k = m := by omega
      have hN : ¬ ((k : Int) < (k : Int)) := by omega
      go_wp2_with fail
      go_ret
      exact ⟨rfl, rfl⟩
/-- A row of one's own bytes, its end marked or not. -/
def RowZ (w : World) (g n : Nat) (f : Nat → BitVec 8) : Prop := ∃ (cur : Array Value) (fr : Nat × Nat), w.heap[g]? = some (.cells cur 5 fr) ∧ (fr.2 = 0 ∨ cur.size ≤ fr.1) ∧ n ≤ cur.size ∧ ∀ i, i < n → cur[i]? = some (.int .u8 (n8 (f i)))
theorem RowZ.lt {w : World} {g n : Nat} {f : Nat → BitVec 8} (h : RowZ w g n f) : g < w.heap.size := by
  obtain ⟨cur, fr, h1, _⟩ := h
  exact lt_of_heap h1
theorem RowZ.at {w : World} {g n : Nat} {f : Nat → BitVec 8} (h : RowZ w g n f) (i : Nat) (hi : i < n) : w.cell? ⟨g, i, none⟩ = some (.int .u8 (n8 (f i))) := by
  obtain ⟨cur, fr, h1, _, _, h4⟩ := h
  rw [cell_of_row _ _ _ _ _ _ h1]; exact h4 i hi
theorem RowZ.free {w : World} {g n : Nat} {f : Nat → BitVec 8} (h : RowZ w g n f) (i : Nat) (hi : i < n) : w.frozen? ⟨g, i, none⟩ = false := by
  obtain ⟨cur, fr, h1, h2, h3, _⟩ := h
  exact frozenF h1 h2 (by omega)
theorem RowZ.set {w : World} {g n : Nat} {f : Nat → BitVec 8} (h : RowZ w g n f) (j : Nat) (x : BitVec 8) : RowZ (w.setCell ⟨g, j, none⟩ (.int .u8 (n8 x))) g n (updb f j x) := by
  obtain ⟨cur, fr, h1, h2, h3, h4⟩ := h
  obtain ⟨cs', e1, e2, e3⟩ := setCells_rowF g 5 fr [.int .u8 (n8 x)] j w cur h1
  refine ⟨cs', fr, e1, by rw [e2]; exact h2, by rw [e2]; exact h3, fun i hi => ?_⟩
  rw [e3]
  unfold updb
  by_cases hij : i = j
  · subst hij
    rw [if_pos ⟨by omega, by simp, by omega⟩, if_pos rfl]; simp
  · rw [if_neg (by simp; omega), if_neg hij]; exact h4 i hi
theorem RowZ.congr {w : World} {g n : Nat} {f f' : Nat → BitVec 8} (h : RowZ w g n f) (hf : ∀ i, i < n → f i = f' i) : RowZ w g n f' := by
  obtain ⟨cur, fr, h1, h2, h3, h4⟩ := h
  exact ⟨cur, fr, h1, h2, h3, fun i hi => by rw [h4 i hi, hf i hi]⟩
theorem RowZ.later {w w' : World} {g n : Nat} {f : Nat → BitVec 8} (h : RowZ w g n f) (hb : Below w.heap.size w w') : RowZ w' g n f := by
  obtain ⟨cur, fr, h1, r⟩ := h
  exact ⟨cur, fr, (hb.block g (lt_of_heap h1)).trans h1, r⟩
theorem RowZ.bytesIn {w : World} {g n : Nat} {f : Nat → BitVec 8} (h : RowZ w g n f) (hn : n ≤ maxLen) : BytesIn w (some ⟨g, 0, none⟩) n f := ⟨hn, .inr ⟨g, 0, rfl, h.lt, fun i hi => by rw [Nat.zero_add]; exact h.at i hi⟩⟩
theorem OwnZ.rowZ {B n : Nat} {v : Value} {f : Nat → BitVec 8} {w : World} (h : OwnZ B v n f w) (hn : 0 < n) : ∃ g c, v = .slice (some ⟨g, 0, none⟩) n c ∧ B ≤ g ∧ n ≤ c ∧ c ≤ maxLen ∧ RowZ w g n f := by
  rcases h.row with ⟨_, h0⟩ | ⟨b, cap, cur, fr, rfl, h2, h3, h4, h5, h6, h7, h8⟩
  · omega
  · exact ⟨b, cap, rfl, h2, h5, h6, cur, fr, h3, h4, by omega, h8⟩
theorem numB_at' (N : Int) (e : Nat) : N / 2 ^ e % 256 = n8 (BitVec.ofInt 8 (N / 2 ^ e)) := by rw [n8_nat, BitVec.toNat_ofInt]; omega
theorem xor_b : ∀ a b : BitVec 8, bits .xor .u8 (n8 a) (n8 b) = n8 (a ^^^ b) := fun a b => by
  show IntKind.wrap .u8 _ = _
  rw [show BitVec.ofInt (IntKind.bits .u8) (n8 a) = a from ofInt_n8 a, show BitVec.ofInt (IntKind.bits .u8) (n8 b) = b from ofInt_n8 b, wrap_n8]
  refine congrArg n8 ?_
  have := ofInt_n8 (a ^^^ b)
  unfold n8 at this
  exact this
/-- The nonce of a number. -/
def nonTo (iv : Nat → BitVec 8) (N : Int) (k j : Nat) : BitVec 8 := if 12 - k ≤ j ∧ j < 12 then iv j ^^^ BitVec.ofInt 8 (N / 2 ^ (8 * (11 - j))) else iv j
set_option maxHeartbeats 8000000 in
theorem nonce_any (iv : Nat → BitVec 8) (N : Int) (h0 : 0 ≤ N) (h1 : N ≤ 4611686018427387903) (w : World) :
    Calls Tryd.prog 28 #[.string (strOf iv 12), .int .i64 N] w fun e w' => ∃ g c, e = .returned (.slice (some ⟨g, 0, none⟩) 12 c) ∧ w.heap.size ≤ g ∧ 12 ≤ c ∧ c ≤ maxLen ∧ RowZ w' g 12 (nonTo iv N 8) ∧ Below w.heap.size w w' := by
  obtain ⟨v1, w1, hcv, o1, b1⟩ := conv_ownZ iv 12 (by omega) w w.heap.size (Nat.le_refl _)
  obtain ⟨g, c, rfl, hg, hc, hcm, rz⟩ := o1.rowZ (by omega)
  have RZ := Lib.hid rz
  have B1 := Lib.hid b1
  clear o1 rz b1
  generalize strOf iv 12 = SI at *
  go_enter Tryd.func28, Tryd.ntmps28
  go_wp2_with fail
  clear hcv
  go_loopw [6, 9] (fun _ s9 wr => ∃ k : Nat, k ≤ 8 ∧ s9 = .int .i64 (k : Int) ∧ RowZ wr g 12 (nonTo iv N k) ∧ Below w.heap.size w wr) (fun _ s9 _ => 8 - (intOf s9).toNat)
  case atStart => exact ⟨0, by omega, rfl, RZ.out.congr (fun i hi => by unfold nonTo; rw [if_neg (by omega)]), B1.out⟩
  case round =>
    clear RZ B1
    obtain ⟨k, hk, rfl, rz, bel⟩ := hrel
    have BEL := Lib.hid bel
    have RZ := Lib.hid rz
    clear bel rz
    by_cases hlt : k < 8
    · have hlI : (k : Int) < 8 := by omega
      have c1 := RZ.out.at (11 - k) (by omega)
      have f1 := RZ.out.free (11 - k) (by omega)
      have hi1 : (12 : Int) - 1 - (k : Int) = ((11 - k : Nat) : Int) := by omega
      have hx : nonTo iv N k (11 - k) = iv (11 - k) := by unfold nonTo; rw [if_neg (by omega)]
      rw [hx] at c1
      generalize hj : 11 - k = j at *
      go_upto_region 5 with (fail)
      go_region
      go_wp2_with fail
      have ex : bits .xor .u8 (n8 (iv j)) (N / 2 ^ (8 * k) % 256) = n8 (iv j ^^^ BitVec.ofInt 8 (N / 2 ^ (8 * k))) := by
        rw [numB_at']; exact xor_b _ _
      rw [ex]
      refine ⟨⟨k + 1, by omega, by go_num, ?_, (BEL.out.setCell (by omega) _).drew⟩, (by simp [intOf] <;> omega)⟩
      obtain ⟨cur, fr, r⟩ := (RZ.out.set j (iv j ^^^ BitVec.ofInt 8 (N / 2 ^ (8 * k)))).congr (f' := nonTo iv N (k + 1)) (fun i hi => by
        unfold updb nonTo
        by_cases hij : i = j
        · subst hij
          rw [if_pos rfl, if_pos (by omega), show 11 - i = k by omega]
        · rw [if_neg hij]
          by_cases h2 : 12 - k ≤ i ∧ i < 12
          · rw [if_pos h2, if_pos (by omega)]
          · rw [if_neg h2, if_neg (by omega)])
      exact ⟨cur, fr, r⟩
    · obtain rfl : k = 8 := by omega
      have hN : ¬ (((8 : Nat) : Int) < 8) := by omega
      go_wp2_with fail
      go_ret
      exact ⟨g, c, rfl, hg, hc, hcm, RZ.out, BEL.out⟩
end Go.Proofs.YtjbpjoondmcnlabDoor
