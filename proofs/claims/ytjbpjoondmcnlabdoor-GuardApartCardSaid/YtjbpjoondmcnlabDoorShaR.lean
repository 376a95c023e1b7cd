/-
  THE DOCUMENT's Block IS ONE TURN OF sha.
-/
import Derived.Test.YtjbpjoondmcnlabDoorShaQ
set_option maxRecDepth 100000
namespace Go.Proofs.YtjbpjoondmcnlabDoor
open Go Go.RowKit Go.BigFrame
set_option linter.unusedSimpArgs false
set_option linter.unusedVariables false
/-- The rows of Block while it runs. -/
structure BlkSt (w0 : World) (q r s u : Nat) (v U : Nat → BitVec 32) (w : World) : Prop where
  bel : Below q w0 w
  rq : w.heap[q]? = some (.cells (wordsA v 8) 143 (0, 0))
  rr : w.heap[r]? = some (.cells (wordsA (fun _ => 0#32) 8) 143 (0, 0))
  rs : w.heap[s]? = some (.cells (wordsA kW 64) 114 (0, 0))
  ru : w.heap[u]? = some (.cells (wordsA U 64) 154 (0, 0))
theorem BlkSt.heap {w0 w w' : World} {q r s u : Nat} {v U : Nat → BitVec 32} (h : BlkSt w0 q r s u v U w) (hh : w'.heap = w.heap) (hb : Below q w0 w') : BlkSt w0 q r s u v U w' :=
  ⟨hb, by rw [hh]; exact h.rq, by rw [hh]; exact h.rr, by rw [hh]; exact h.rs, by rw [hh]; exact h.ru⟩
theorem BlkSt.setU {w0 w w' : World} {q r s u : Nat} {v U U' : Nat → BitVec 32} (h : BlkSt w0 q r s u v U w) (hs : RowSet w u 154 (wordsA U' 64) w') (ho : q < r ∧ r < s ∧ s < u) : BlkSt w0 q r s u v U' w' :=
  ⟨h.bel.trans (hs.below _ (by omega)), hs.keep (by omega) h.rq, hs.keep (by omega) h.rr, hs.keep (by omega) h.rs, hs.row⟩
theorem BlkSt.other {w0 w w' : World} {q r s u t : Nat} {v U : Nat → BitVec 32} {T : TypeId} {c : Array Value} (h : BlkSt w0 q r s u v U w) (hs : RowSet w t T c w') (ho : q < r ∧ r < s ∧ s < u) (ht : u < t) : BlkSt w0 q r s u v U w' :=
  ⟨h.bel.trans (hs.below _ (by omega)), hs.keep (by omega) h.rq, hs.keep (by omega) h.rr, hs.keep (by omega) h.rs, hs.keep (by omega) h.ru⟩
theorem BlkSt.setQ {w0 w w' : World} {q r s u : Nat} {v v' U : Nat → BitVec 32} (h : BlkSt w0 q r s u v U w) (hs : RowSet w q 143 (wordsA v' 8) w') (ho : q < r ∧ r < s ∧ s < u) : BlkSt w0 q r s u v' U w' :=
  ⟨h.bel.trans (hs.below _ (Nat.le_refl _)), hs.row, hs.keep (by omega) h.rr, hs.keep (by omega) h.rs, hs.keep (by omega) h.ru⟩
theorem upto_set (g : Nat → BitVec 32) (i j : Nat) : (if j = i then g i else sofar g i j) = sofar g (i + 1) j := by
  unfold sofar
  by_cases e : j = i
  · subst e; rw [if_pos rfl, if_pos (by omega)]
  · rw [if_neg e]
    by_cases e2 : j < i
    · rw [if_pos e2, if_pos (by omega)]
    · rw [if_neg e2, if_neg (by omega)]
theorem strOf_at (f : Nat → BitVec 8) (n k : Nat) (h : k < n) (w : World) : (Instr.index 9 (.string (strOf f n)) (.int .i64 (k : Int))).run Tryd.prog w = .ok (.int .u8 (n8 (f k))) w := by
  have hs := strOf_size f n
  have h2 : k < (strOf f n).data.size := by rw [ByteArray.size_data, hs]; exact h
  have hd : (strOf f n).data[k]? = some (UInt8.ofBitVec (f k)) := by
    show (strL f n).toArray[k]? = _
    simp [strL, h]
  have hg : (strOf f n)[k]'(by rw [hs]; exact h) = UInt8.ofBitVec (f k) := by
    rw [Array.getElem?_eq_getElem h2] at hd
    exact Option.some.inj hd
  have h0 : (0 : Int) ≤ (k : Int) := by omega
  have h1 : (k : Int) < ((strOf f n).size : Int) := by rw [hs]; omega
  rw [n8_u8, ← hg]
  simp [go_sem, h0, h1]
end Go.Proofs.YtjbpjoondmcnlabDoor
