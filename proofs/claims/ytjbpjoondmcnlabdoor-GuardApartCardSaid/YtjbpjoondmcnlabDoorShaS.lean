/-
  THE DOCUMENT's Sum (rhyneref01) IS sha's.
-/
import Derived.Test.YtjbpjoondmcnlabDoorShaR
import Derived.Test.YtjbpjoondmcnlabDoorMg07
import Derived.Test.YtjbpjoondmcnlabDoorOwnZ
import Derived.Laws.IdiomStrings
import Derived.Deep.RegionHeld
set_option maxRecDepth 100000
namespace Go.Proofs.YtjbpjoondmcnlabDoor
open Go Go.RowKit Go.BigFrame
set_option linter.unusedSimpArgs false
set_option linter.unusedVariables false
/-- '[]byte(text)'. -/
theorem conv_ownZ (f : Nat → BitVec 8) (n : Nat) (hn : n ≤ 1000000) (w : World) (B : Nat) (hB : B ≤ w.heap.size) : ∃ v w', (convert 9 31 (.string (strOf f n))).run Tryd.prog w = .ok v w' ∧ OwnZ B v n f w' ∧ Below w.heap.size w w' := by
  have hr := run_bytes_of_string (P := Tryd.prog) w 9 31 5 (strOf f n) (by kernel_rfl) (by kernel_rfl) (by kernel_rfl)
  rw [strOf_size] at hr
  refine ⟨_, _, hr, ⟨.inr ⟨w.heap.size, _, _, _, rfl, hB, heap_alloc_new w.drew _, .inr (Nat.le_refl _), grownCap_ge _ _ _ _, ?_, ?_, ?_⟩, by simp; exact Nat.le_succ_of_le hB⟩, (Below.refl _ _).drew.alloc (by exact Nat.le_refl _) _⟩
  · have := grownCap_le_maxLen w n 0 5 (by unfold maxLen; omega)
    exact this
  · have hge := grownCap_ge w n 0 5
    unfold bytesRow
    rw [Array.size_append, Array.size_map, Array.size_replicate, strOf_size, show (strOf f n).data.size = n from strOf_size f n]
    omega
  · intro j hj
    unfold bytesRow
    rw [Array.getElem?_append_left (by rw [Array.size_map, show (strOf f n).data.size = n from strOf_size f n]; exact hj), Array.getElem?_map]
    have hd : (strOf f n).data[j]? = some (UInt8.ofBitVec (f j)) := by
      show (strL f n).toArray[j]? = _
      simp [strL, hj]
    rw [hd, n8_u8]
    rfl
theorem src_byte (w : World) (x : BitVec 8) : Src Tryd.prog 1 31 (.slice (some ⟨w.heap.size, 0, none⟩) 1 1) 1 (firsts (fun _ => x) 1) (w.alloc (.cells #[.int .u8 (n8 x)] 5)) := src_one_new w x
theorem run_mid (w : World) (g lo hi n c : Nat) (h1 : lo ≤ hi) (h2 : hi ≤ n) (h3 : n ≤ c) (h4 : lo < hi) : (Instr.sliceAt 31 (.slice (some ⟨g, 0, none⟩) n c) (some (.int .i64 (lo : Int))) (some (.int .i64 (hi : Int))) none).run Tryd.prog w = .ok (.slice (some ⟨g, lo, none⟩) (hi - lo) (c - lo)) w := by
  have hu : Tryd.prog.underlying 31 = some (.slice (Tryd.prog.elem 31)) := by kernel_rfl
  have e0 : (0 : Int) ≤ (lo : Int) := by omega
  have e1 : (lo : Int) ≤ (hi : Int) := by omega
  have e2 : (hi : Int) ≤ (c : Int) := by omega
  have e3 : ¬ c = lo := by omega
  have e4 : ((⟨g, 0, none⟩ : Addr).add lo) = ⟨g, 0 + lo, none⟩ := by unfold Addr.add; split <;> simp_all
  rw [run_sliceAt_slice (t := 31) (h := hu), run_slice_any (t := 31) (ht := hu)]
  simp [Instr.sliceBounds, go_sem, e0, e1, e2, e3, e4]
  intro h
  omega
theorem step_append_z {ops : Array Oper} {o : Oper} {a : Act} {w : World} {K : Act → World → Prop} {Q : Exit → Act → World → Prop} {E : Prop} (hw : Region.wanted o (yielded ops a.tmps) = true) (s x : Operand) (tx : TypeId)
    (ho : o.op = .call { callee := .builtin .append, args := #[s, x], argTypes := #[31, tx] })
    {B n m : Nat} {v xv : Value} {f g : Nat → BitVec 8} (hs : a.eval s = v) (hx : a.eval x = xv) (h : OwnZ B v n f w) (hsrc : Src Tryd.prog 1 tx xv m (firsts g m) w) (hnm : n + m ≤ 200000000000000)
    (hk : ∀ v' w', OwnZ B v' (n + m) (joinb f n g) w' → Below B w w' → K (a.put o.dst v') w') : if Region.wanted o (yielded ops a.tmps) = true then Oper.wp Tryd.prog o a w K Q else E := by
  rw [if_pos hw]
  obtain ⟨v', w', hr, h2, h3⟩ := run_append_z o.type h hsrc hnm
  unfold Oper.wp execOp
  simp only [ho, resolve, invoke, builtin, Sem.run_bind, Sem.run_pure, Result.andThen_ok, List.map_toArray, List.map_cons, List.map_nil, hs, hx, hr]
  exact hk v' w' h2 h3
theorem load_row8 {w : World} {g : Nat} {p : Nat → BitVec 32} (h : w.heap[g]? = some (.cells (wordsA p 8) 143 (0, 0))) : (Instr.loadAt 143 (.pointer (some ⟨g, 0, none⟩))).run Tryd.prog w = .ok (.agg (wordsA p 8)) w := by
  simp only [Instr.loadAt, Instr.sureAddr, Sem.run_bind, Sem.run_pure, Result.andThen_ok]
  exact run_loadVar_row _ _ 143 _ _ (0, 0) _ h Tryd.underlying143 rfl (by rw [wordsA_size]; kernel_rfl)
theorem wpList_append_z {ops : Array Oper} {rest : List Oper} {o : Oper} {a : Act} {w : World} {Q : Exit → Act → World → Prop} (hw : Region.wanted o (yielded ops a.tmps) = true) (s x : Operand) (tx : TypeId)
    (ho : o.op = .call { callee := .builtin .append, args := #[s, x], argTypes := #[31, tx] })
    {B n m : Nat} {v xv : Value} {f g : Nat → BitVec 8} (hs : a.eval s = v) (hx : a.eval x = xv) (h : OwnZ B v n f w) (hsrc : Src Tryd.prog 1 tx xv m (firsts g m) w) (hnm : n + m ≤ 200000000000000)
    (hk : ∀ v' w', OwnZ B v' (n + m) (joinb f n g) w' → Below B w w' → wpList Tryd.prog ops Q rest (a.put o.dst v') w') : wpList Tryd.prog ops Q (o :: rest) a w :=
  wpList_step fun K hK => by
    rw [if_pos hw]
    obtain ⟨v', w', hr, h2, h3⟩ := run_append_z o.type h hsrc hnm
    unfold Oper.wp execOp
    simp only [ho, resolve, invoke, builtin, Sem.run_bind, Sem.run_pure, Result.andThen_ok, List.map_toArray, List.map_cons, List.map_nil, hs, hx, hr]
    exact hK _ _ (hk v' w' h2 h3)
/-- One byte more of the padded text. -/
theorem padded_snoc (f : Nat → BitVec 8) (n N : Nat) (x : BitVec 8) (h : padded f n N = x) (i : Nat) (hi : i < N + 1) : joinb (padded f n) N (fun _ => x) i = padded f n i := by
  unfold joinb
  by_cases h1 : i < N
  · rw [if_pos h1]
  · rw [if_neg h1, show i = N by omega, h]
theorem padded_text (f : Nat → BitVec 8) {n i : Nat} (h : i < n) : padded f n i = f i := by unfold padded; rw [if_pos h]
theorem padded_one (f : Nat → BitVec 8) (n : Nat) : padded f n n = 128#8 := by unfold padded; rw [if_neg (by omega), if_pos rfl]
theorem padded_nought (f : Nat → BitVec 8) {n i : Nat} (h1 : n < i) (h2 : i < 64 * ((n + 8) / 64 + 1) - 8) : padded f n i = 0#8 := by unfold padded; rw [if_neg (by omega), if_neg (by omega), if_neg (by omega)]
theorem padded_len (f : Nat → BitVec 8) {n j : Nat} (h : j < 8) : padded f n (64 * ((n + 8) / 64 + 1) - 8 + j) = BitVec.ofNat 8 (n * 8 / 2 ^ (8 * (7 - j))) := by
  unfold padded
  rw [if_neg (by omega), if_neg (by omega), if_pos (by omega), show 64 * ((n + 8) / 64 + 1) - 1 - (64 * ((n + 8) / 64 + 1) - 8 + j) = 7 - j by omega, Nat.pow_mul]
theorem len_byte (n k : Nat) : (n : Int) * 8 / 2 ^ k % 256 = n8 (BitVec.ofNat 8 (n * 8 / 2 ^ k)) := by
  rw [n8_nat, BitVec.toNat_ofNat]
  simp
/-- Four bytes of a word. -/
def four (x : BitVec 32) (j : Nat) : BitVec 8 := if j = 0 then (x >>> 24).setWidth 8 else if j = 1 then (x >>> 16).setWidth 8 else if j = 2 then (x >>> 8).setWidth 8 else x.setWidth 8
theorem state_four (V : W8) (i k : Nat) (hk : k < 4 * i + 4) : joinb (stateB V) (4 * i) (four (V.get i)) k = stateB V k := by
  unfold joinb
  by_cases h : k < 4 * i
  · rw [if_pos h]
  · rw [if_neg h]
    unfold stateB
    rw [show k / 4 = i by omega]
    rcases (by omega : k = 4 * i ∨ k = 4 * i + 1 ∨ k = 4 * i + 2 ∨ k = 4 * i + 3) with e | e | e | e
    · rw [show k - 4 * i = 0 by omega, show k % 4 = 0 by omega]; rfl
    · rw [show k - 4 * i = 1 by omega, show k % 4 = 1 by omega]; rfl
    · rw [show k - 4 * i = 2 by omega, show k % 4 = 2 by omega]; rfl
    · rw [show k - 4 * i = 3 by omega, show k % 4 = 3 by omega]
      show (V.get i).setWidth 8 = (V.get i >>> 0).setWidth 8
      rw [BitVec.ushiftRight_zero]
theorem src_four (w : World) (x : BitVec 32) : Src Tryd.prog 1 31 (.slice (some ⟨w.heap.size, 0, none⟩) 4 4) 4 (firsts (four x) 4) (w.alloc (.cells #[.int .u8 (n8 ((x >>> 24).setWidth 8)), .int .u8 (n8 ((x >>> 16).setWidth 8)), .int .u8 (n8 ((x >>> 8).setWidth 8)), .int .u8 (n8 (x.setWidth 8))] 5)) :=
  src_bytes (four x) w.heap.size 0 4 4 _ (fun i hi => by
    have hrow := heap_alloc_last w (.cells #[.int .u8 (n8 ((x >>> 24).setWidth 8)), .int .u8 (n8 ((x >>> 16).setWidth 8)), .int .u8 (n8 ((x >>> 8).setWidth 8)), .int .u8 (n8 (x.setWidth 8))] 5)
    rw [Nat.zero_add, cell_of_row _ _ _ _ _ _ hrow]
    rcases (by omega : i = 0 ∨ i = 1 ∨ i = 2 ∨ i = 3) with rfl | rfl | rfl | rfl <;> rfl)
end Go.Proofs.YtjbpjoondmcnlabDoor
