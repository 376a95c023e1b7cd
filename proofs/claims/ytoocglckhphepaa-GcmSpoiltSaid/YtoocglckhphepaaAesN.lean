/-
  FIPS 197's BLOCK: what its turn needs.
-/
import Derived.Test.YtoocglckhphepaaAesI
import Derived.Test.YtoocglckhphepaaAppend
namespace Go.Proofs.Ytoocglckhphepaa
open Go Go.RowKit Go.BigFrame
set_option maxRecDepth 100000
def keyB (i : Nat) : BitVec 8 := BitVec.ofNat 8 i
def txtB (i : Nat) : BitVec 8 := BitVec.ofNat 8 (17 * i)
theorem out0 : (W4.byte (turned sbox (sched keyB) (W4.of txtB)) 0) = 0x69#8 := by decide +kernel
theorem out15 : (W4.byte (turned sbox (sched keyB) (W4.of txtB)) 15) = 0x5A#8 := by decide +kernel
theorem apart_kept {w w1 : World} {v v1 u : Value} (hn : NewBlock w w1 v v1) (hd : v.ownBlock = none ∨ u.ownBlock = none ∨ v.ownBlock ≠ u.ownBlock) (hu : ∀ k, u.ownBlock = some k → k < w.heap.size) :
    v1.ownBlock = none ∨ u.ownBlock = none ∨ v1.ownBlock ≠ u.ownBlock := by
  rcases hn with ⟨h, _⟩ | ⟨⟨k, hk, hlt⟩, _⟩
  · rw [h]; exact hd
  · right
    cases hb : u.ownBlock with
    | none => exact .inl rfl
    | some j =>
      right
      have := hu j hb
      rw [hk]
      intro e
      injection e with e
      omega
/-- No key makes noughts alone. -/
theorem sched_ne (b : Nat → BitVec 8) : ∃ i, i < 44 ∧ sched b i ≠ 0#32 := by
  by_cases h0 : sched b 0 = 0#32
  · by_cases h3 : sched b 3 = 0#32
    · refine ⟨4, by omega, ?_⟩
      have e0 : (keyAt b 0).a = 0#32 := h0
      have e3 : (keyAt b 0).d = 0#32 := h3
      show (W4.next sbox (keyAt b 0) (rcon 0)).a ≠ 0#32
      unfold W4.next
      simp only [e0, e3]
      decide +kernel
    · exact ⟨3, by omega, h3⟩
  · exact ⟨0, by omega, h0⟩
theorem own_slice0 {w : World} {B : Nat} {v : Value} {n : Nat} {f : Nat → BitVec 8} (hn : 0 < n) (h : w.ownsRow B 5 1 v n (firsts f n)) :
    ∃ g cap, v = .slice (some ⟨g, 0, none⟩) n cap ∧ B ≤ g ∧ g < w.heap.size ∧ ∀ i, i < n → w.cell? ⟨g, 0 + i, none⟩ = some (.int .u8 (n8 (f i))) := by
  have hc := h
  rcases h.2 with ⟨_, h0⟩ | ⟨g, cap, cur, rfl, hB, hg, _⟩
  · omega
  · refine ⟨g, cap, rfl, hB, lt_of_heap hg, fun i hi => ?_⟩
    have h1 := hc.cells (g := g) rfl i (.int .u8 (n8 (f i))) (by simp [firsts, hi])
    have : ((⟨g, 0, none⟩ : Addr).add i) = ⟨g, 0 + i, none⟩ := by unfold Addr.add; split <;> simp_all
    rw [← this]; exact h1
theorem KeySt.cipher {w0 w : World} {p q : Nat} {b : Nat → BitVec 8} (h : KeySt w0 p q (sched b) w) : CipherAt w p (sched b) :=
  ⟨h.key, sched_ne b, lt_of_heap h.row⟩
theorem Fresh16.cell {w0 w : World} {r : Nat} {b : Nat → BitVec 8} (h : Fresh16 w0 r b w) (i : Nat) (hi : i < 16) : w.cell? ⟨r, i, none⟩ = some (.int .u8 (n8 (b i))) := by
  rw [cell_of_row _ _ _ _ _ _ h.row]; exact b16_get b i hi
end Go.Proofs.Ytoocglckhphepaa
