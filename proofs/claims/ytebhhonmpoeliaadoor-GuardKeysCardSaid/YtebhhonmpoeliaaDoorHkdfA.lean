/-
  hkdf: the blocks of Expand, as plain functions; make with room; append behind a row that is taken anew.
-/
import Derived.Test.YtebhhonmpoeliaaDoorShaJ
import Derived.Test.YtebhhonmpoeliaaDoorShaN
namespace Go.Proofs.YtebhhonmpoeliaaDoor
open Go Go.RowKit Go.BigFrame
set_option linter.unusedSimpArgs false
set_option linter.unusedVariables false
/-- How many bytes stand ahead of the use in block i + 1. -/
def tl (i : Nat) : Nat := if i = 0 then 0 else 32
/-- The i-th block. -/
def tB (K g : Nat → BitVec 8) (n : Nat) : Nat → Nat → BitVec 8
  | 0 => fun _ => 0#8
  | i + 1 => macB K (joinb (joinb (tB K g n i) (tl i) g) (tl i + n) (fun _ => BitVec.ofNat 8 (i + 1))) (tl i + n + 1)
/-- All blocks, one behind the other. -/
def expB (K g : Nat → BitVec 8) (n j : Nat) : BitVec 8 := tB K g n (j / 32 + 1) (j % 32)
theorem tl_le (i : Nat) : tl i ≤ 32 := by unfold tl; split <;> omega
theorem tl_succ (i : Nat) : tl (i + 1) = 32 := by unfold tl; rw [if_neg (by omega)]
theorem expB_snoc (K g : Nat → BitVec 8) (n i k : Nat) (hk : k ≤ 32) (j : Nat) (hj : j < 32 * i + k) : joinb (expB K g n) (32 * i) (tB K g n (i + 1)) j = expB K g n j := by
  unfold joinb
  split
  · rfl
  · unfold expB
    rw [show j / 32 = i by omega, show j % 32 = j - 32 * i by omega]
/-- 'make([]byte, 0, c)'. -/
theorem run_make_cap (c : Nat) (hn : c ≤ 281474976710656) (w : World) :
    (Instr.makeSlice 40 (.int .i64 0) (.int .i64 (c : Int))).run Tryd.prog w = .ok (.slice (some ⟨w.heap.size, 0, none⟩) 0 c) (w.alloc (.cells (bytesArr (fun _ => 0#8) c) 5)) := by
  obtain ⟨i, hq, hz, hs, hb⟩ := info_u8'
  have h := run_make (P := Tryd.prog) w 40 5 i _ (by kernel_rfl) hq hz .i64 .i64 0 (c : Int) (by omega) (by omega) (by rw [hb]; omega) (by omega)
  rw [h, hs]
  have e : madeCells (Value.int .u8 0).cells (((c : Nat) : Int).toNat * 1) = bytesArr (fun _ => 0#8) c := by
    unfold madeCells bytesArr
    apply Array.ext_getElem?
    intro j
    have z : n8 0#8 = 0 := by unfold n8; rfl
    by_cases hj : j < c
    · simp [hj, Value.cells, z, Nat.mod_one]
    · simp [hj]
  rw [e]
  simp
theorem Own.of_room {B r c : Nat} {f g : Nat → BitVec 8} {w : World} (hB : B ≤ r) (hn : c ≤ maxLen) (h : w.heap[r]? = some (.cells (bytesArr g c) 5 (0, 0))) : Own B (.slice (some ⟨r, 0, none⟩) 0 c) 0 f w :=
  ⟨⟨rfl, .inr ⟨r, c, _, rfl, hB, h, Nat.zero_le _, hn, by rw [bytesArr_size, Nat.mul_one], rfl⟩⟩, by have := lt_of_heap h; omega⟩
/-- 's[:0]' of what one owns. -/
theorem Own.none {B n : Nat} {a : Option Addr} {c : Nat} {f g : Nat → BitVec 8} {w : World} (h : Own B (.slice a n c) n f w) : Own B (.slice a 0 c) 0 g w := by
  refine ⟨⟨rfl, ?_⟩, h.base⟩
  rcases h.row.2 with ⟨e, hn⟩ | ⟨r, cap, cur, e, hB, hg, hnc, hcm, hcs, ht⟩
  · injection e with e1 e2 e3
    subst e1; subst e3
    exact .inl ⟨rfl, rfl⟩
  · injection e with e1 e2 e3
    subst e1; subst e3
    exact .inr ⟨r, c, cur, rfl, hB, hg, Nat.zero_le _, hcm, hcs, rfl⟩
/-- Bytes that lie in a row from B on, and others of one's own in another row. -/
def Apart (v u : Value) : Prop := ∀ k, v.ownBlock = some k → u.ownBlock ≠ some k
theorem Apart.symm {v u : Value} (h : Apart v u) : Apart u v := fun k h1 h2 => h k h2 h1
theorem Apart.grown {B n : Nat} {v v' u : Value} {f : Nat → BitVec 8} {w w' : World} (h : Apart v u) (hg : GrownV w w' v v') (hu : Own B u n f w) : Apart v' u := by
  intro k hk he
  rcases hg.blk with e | ⟨j, e, hj⟩
  · exact h k (by rw [← e]; exact hk) he
  · rw [hk] at e
    injection e with e
    have := (hu.lt he).2
    omega
theorem Own.beside {B n : Nat} {v v' u : Value} {f : Nat → BitVec 8} {w w' : World} (h : Own B u n f w) (hg : GrownV w w' v v') (ha : Apart v u) : Own B u n f w' :=
  h.kept hg.grown (by
    cases hv : v.ownBlock with
    | none => exact .inr (.inl rfl)
    | some k => exact .inr (.inr (ha k hv)))
end Go.Proofs.YtebhhonmpoeliaaDoor
