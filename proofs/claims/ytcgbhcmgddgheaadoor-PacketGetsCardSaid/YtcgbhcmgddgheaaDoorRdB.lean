/-
  PACKET's READER: number, name, token, counted.
-/
import Derived.Test.YtcgbhcmgddgheaaDoorRdA
namespace Go.Proofs.YtcgbhcmgddgheaaDoor
open Go Go.RowKit Go.BigFrame
set_option linter.unusedSimpArgs false
set_option linter.unusedVariables false
set_option maxRecDepth 100000
/-- The number of m bytes, the highest first. -/
def numG (g : Nat → BitVec 8) : Nat → Nat
  | 0 => 0
  | m + 1 => numG g m * 256 + (g m).toNat
theorem numG_lt (g : Nat → BitVec 8) : ∀ m, numG g m < 256 ^ m
  | 0 => by simp [numG]
  | m + 1 => by
    have h := numG_lt g m
    have h2 := (g m).isLt
    show numG g m * 256 + (g m).toNat < 256 ^ m * 256
    omega
theorem or_byte (x : Nat) (y : BitVec 8) (hx : x < 4294967296) : bits .or .i64 (wrap64 ((x : Int) * 256)) (wrap64 (n8 y)) = ((x * 256 + y.toNat : Nat) : Int) := by
  have hy := y.isLt
  have e1 : wrap64 ((x : Int) * 256) = ((x * 256 : Nat) : Int) := by unfold wrap64; omega
  have e2 : wrap64 (n8 y) = (y.toNat : Int) := by rw [n8_nat]; unfold wrap64; omega
  rw [e1, e2]
  show IntKind.wrap .i64 _ = _
  have e3 : (BitVec.ofInt (IntKind.bits .i64) ((x * 256 : Nat) : Int) ||| BitVec.ofInt (IntKind.bits .i64) (y.toNat : Int)).toNat = x * 256 + y.toNat := by
    show (BitVec.ofInt 64 ((x * 256 : Nat) : Int) ||| BitVec.ofInt 64 (y.toNat : Int)).toNat = _
    rw [BitVec.toNat_or, BitVec.toNat_ofInt, BitVec.toNat_ofInt]
    rw [show (((x * 256 : Nat) : Int) % ((2 ^ 64 : Nat) : Int)).toNat = x <<< 8 by rw [Nat.shiftLeft_eq]; omega, show ((y.toNat : Int) % ((2 ^ 64 : Nat) : Int)).toNat = y.toNat by omega]
    rw [← Nat.shiftLeft_add_eq_or_of_lt (by omega), Nat.shiftLeft_eq]
  rw [e3]
  simp only [IntKind.wrap, IntKind.bits, IntKind.signed]
  simp
  omega
set_option maxHeartbeats 4000000 in
theorem number_any {w : World} {b : Nat} {a : Option Addr} {len cap : Nat} {f : Nat → BitVec 8} {p : Nat} {e : Int} (h : Rd w b a len cap f p e) (n : Nat) (hn : n ≤ 4) :
    Calls Tryd.prog 76 #[.pointer (some ⟨b, 0, none⟩), .int .i64 (n : Int)] w (RdPost b a len cap f w (.int .i64 (numG (fun i => f (p + i)) (tkN len p e n) : Nat)) (p + tkN len p e n) (tkE len p e n)) := by
  have T := Lib.hid (take_any h n)
  have hm : tkN len p e n ≤ 4 := by unfold tkN; split <;> omega
  clear h
  generalize tkN len p e n = m at *
  generalize tkE len p e n = e' at *
  go_enter Tryd.func76, Tryd.ntmps76
  go_wp2_with fail
  with_reducible refine T.out.mono ?_
  rintro x w1 ⟨a', c', rfl, hb, hc, hcm, h1, g1⟩
  have HB := Lib.hid hb
  have H1 := Lib.hid h1
  have G1 := Lib.hid g1
  have hc4 : m ≤ 9223372036854775807 := by omega
  clear hb h1 g1 hcm T
  go_wp2_with fail
  go_loopw [5, 12] (fun s5 s12 wr => ∃ j : Nat, j ≤ m ∧ wr = w1 ∧ s12 = .int .i64 (j : Int) ∧ s5 = .int .i64 (numG (fun i => f (p + i)) j : Nat)) (fun _ s12 _ => ((m : Int) - intOf s12).toNat)
  case atStart => exact ⟨0, by omega, rfl, rfl, rfl⟩
  case round =>
    obtain ⟨j, hj, rfl, rfl, rfl⟩ := hrel
    by_cases hlt : j < m
    · obtain ⟨k, off, rfl, hk, hcell⟩ : ∃ k off, a' = some ⟨k, off, none⟩ ∧ k < wr.heap.size ∧ ∀ i, i < m → wr.cell? ⟨k, off + i, none⟩ = some (.int .u8 (n8 (f (p + i)))) := by
        rcases HB.out.2 with h0 | h0
        · omega
        · exact h0
      have hv := hcell j hlt
      clear hcell
      go_wp2_with fail
      have hj4 : numG (fun i => f (p + i)) j < 4294967296 := Nat.lt_of_lt_of_le (numG_lt _ j) (Nat.le_trans (Nat.pow_le_pow_right (by decide) (show j ≤ 4 by omega)) (by decide))
      refine ⟨⟨j + 1, by omega, trivial, by congr 1, ?_⟩, by simp [intOf]; omega⟩
      rw [or_byte _ _ hj4]
      rfl
    · obtain rfl : j = m := by omega
      go_wp2_with fail
      go_ret
      exact ⟨rfl, H1.out, G1.out⟩
theorem amV_nonneg (n : Nat) (most e : Int) : ∃ k : Nat, amV (n : Int) most e = (k : Int) ∧ (k = n ∨ k = 0) := by
  unfold amV
  split
  · exact ⟨n, rfl, .inl rfl⟩
  · exact ⟨0, rfl, .inr rfl⟩
/-- A count of bytes that may be at most so great, and these as a text. -/
def nmK (n most : Nat) (e : Int) : Nat := if e = 0 ∧ n ≤ most then n else 0
theorem nmK_eq (n most : Nat) (e : Int) : amV (n : Int) (most : Int) e = (nmK n most e : Nat) := by
  unfold amV nmK
  by_cases h : e = 0 ∧ n ≤ most
  · rw [if_pos h, if_pos ⟨h.1, by omega⟩]
  · rw [if_neg h, if_neg (by omega)]; rfl
/-- Where a text of n bytes, at most so many, ends, and the error. -/
def txN (len p n most : Nat) (e : Int) : Nat := tkN len p (amE n most e) (nmK n most e)
def txE (len p n most : Nat) (e : Int) : Int := tkE len p (amE n most e) (nmK n most e)
set_option maxHeartbeats 4000000 in
theorem token_any {w : World} {b : Nat} {a : Option Addr} {len cap : Nat} {f : Nat → BitVec 8} {p : Nat} {e : Int} (h : Rd w b a len cap f p e) (n : Nat) :
    Calls Tryd.prog 79 #[.pointer (some ⟨b, 0, none⟩), .int .i64 (n : Int)] w (RdPost b a len cap f w (.string (strOf (fun i => f (p + i)) (txN len p n 512 e))) (p + txN len p n 512 e) (txE len p n 512 e)) := by
  have A : Hid (Calls Tryd.prog 83 #[.pointer (some ⟨b, 0, none⟩), .int .i64 (n : Int), .int .i64 512] w (RdPost b a len cap f w (.int .i64 (nmK n 512 e : Nat)) p (amE (n : Int) ((512 : Nat) : Int) e))) := Lib.hid (by
    have h1 := atMost_any h (n : Int) ((512 : Nat) : Int)
    rw [nmK_eq] at h1
    exact h1)
  have T := Lib.hid (fun (w' : World) (h' : Rd w' b a len cap f p (amE (n : Int) ((512 : Nat) : Int) e)) => take_any h' (nmK n 512 e))
  unfold txN txE
  clear h
  generalize nmK n 512 e = k at *
  generalize amE (n : Int) ((512 : Nat) : Int) e = e1 at *
  generalize tkN len p e1 k = m at *
  generalize tkE len p e1 k = e2 at *
  go_enter Tryd.func79, Tryd.ntmps79
  go_wp2_with fail
  with_reducible refine A.out.mono ?_
  rintro x w1 ⟨rfl, h1, g1⟩
  have T1 := Lib.hid (T.out w1 h1)
  have G1 := Lib.hid g1
  clear h1 g1 T A
  go_wp2_with fail
  with_reducible refine T1.out.mono ?_
  rintro x w2 ⟨a', c', rfl, hb, hc, hcm, h2, g2⟩
  have cv := conv_in _ a' m c' w2 hb
  have H2 := Lib.hid h2
  have G2 := Lib.hid (G1.out.trans g2)
  clear hb h2 g2 T1 G1
  go_wp2_with fail
  go_ret
  exact ⟨rfl, H2.out, G2.out⟩
/-- A name: its count, a byte; and its bytes. -/
def nmC (len : Nat) (f : Nat → BitVec 8) (p : Nat) (e : Int) : Nat := numG (fun i => f (p + i)) (tkN len p e 1)
def nmN (len : Nat) (f : Nat → BitVec 8) (p : Nat) (e : Int) : Nat := txN len (p + tkN len p e 1) (nmC len f p e) 20 (tkE len p e 1)
def nmE (len : Nat) (f : Nat → BitVec 8) (p : Nat) (e : Int) : Int := txE len (p + tkN len p e 1) (nmC len f p e) 20 (tkE len p e 1)
def nmP (len : Nat) (f : Nat → BitVec 8) (p : Nat) (e : Int) : Nat := p + tkN len p e 1 + nmN len f p e
def nmS (len : Nat) (f : Nat → BitVec 8) (p : Nat) (e : Int) : ByteArray := strOf (fun i => f (p + tkN len p e 1 + i)) (nmN len f p e)
set_option maxHeartbeats 4000000 in
theorem name_any {w : World} {b : Nat} {a : Option Addr} {len cap : Nat} {f : Nat → BitVec 8} {p : Nat} {e : Int} (h : Rd w b a len cap f p e) :
    Calls Tryd.prog 77 #[.pointer (some ⟨b, 0, none⟩)] w (RdPost b a len cap f w (.string (nmS len f p e)) (nmP len f p e) (nmE len f p e)) := by
  have N1 := Lib.hid (number_any h 1 (by omega))
  rw [show ((1 : Nat) : Int) = 1 from rfl] at N1
  unfold nmS nmP nmE nmN txN txE
  rw [show numG (fun i => f (p + i)) (tkN len p e 1) = nmC len f p e from rfl] at N1
  clear h
  generalize nmC len f p e = n at *
  generalize tkE len p e 1 = e0 at *
  generalize p + tkN len p e 1 = q at *
  have A := Lib.hid (fun (w' : World) (h' : Rd w' b a len cap f q e0) => (show Calls Tryd.prog 83 #[.pointer (some ⟨b, 0, none⟩), .int .i64 (n : Int), .int .i64 20] w' (RdPost b a len cap f w' (.int .i64 (nmK n 20 e0 : Nat)) q (amE (n : Int) ((20 : Nat) : Int) e0)) from by
    have h1 := atMost_any h' (n : Int) ((20 : Nat) : Int)
    rw [nmK_eq] at h1
    exact h1))
  have T := Lib.hid (fun (w' : World) (h' : Rd w' b a len cap f q (amE (n : Int) ((20 : Nat) : Int) e0)) => take_any h' (nmK n 20 e0))
  generalize nmK n 20 e0 = k at *
  generalize amE (n : Int) ((20 : Nat) : Int) e0 = e1 at *
  generalize tkN len q e1 k = m at *
  generalize tkE len q e1 k = e2 at *
  go_enter Tryd.func77, Tryd.ntmps77
  go_wp2_with fail
  with_reducible refine N1.out.mono ?_
  rintro x w1 ⟨rfl, h1, g1⟩
  have A1 := Lib.hid (A.out w1 h1)
  have G1 := Lib.hid g1
  clear h1 g1 A N1
  go_wp2_with fail
  with_reducible refine A1.out.mono ?_
  rintro x w2 ⟨rfl, h2, g2⟩
  have T1 := Lib.hid (T.out w2 h2)
  have G2 := Lib.hid (G1.out.trans g2)
  clear h2 g2 T A1 G1
  go_wp2_with fail
  with_reducible refine T1.out.mono ?_
  rintro x w3 ⟨a', c', rfl, hb, hc, hcm, h3, g3⟩
  have cv := conv_in _ a' m c' w3 hb
  have H3 := Lib.hid h3
  have G3 := Lib.hid (G2.out.trans g3)
  clear hb h3 g3 T1 G2
  go_wp2_with fail
  go_ret
  exact ⟨rfl, H3.out, G3.out⟩
end Go.Proofs.YtcgbhcmgddgheaaDoor
