/-
  '==' OF ARRAYS OF WORDS: the run of the comparison, out of the library's law on values that may be keys.
-/
import Derived.Test.YtddpfbeclmgndaaDoorKit
import Derived.DeepKeys
import Derived.Laws.StructEq
namespace Go.Proofs.YtddpfbeclmgndaaDoor
open Go Go.RowKit
theorem mapM_some_range {α : Type} (F : Nat → Option α) (g : Nat → α) : ∀ (l : List Nat), (∀ i ∈ l, F i = some (g i)) → l.mapM F = some (l.map g)
  | [], _ => rfl
  | i :: l, h => by
    rw [List.mapM_cons, h i (by simp), mapM_some_range F g l (fun j hj => h j (by simp [hj]))]
    rfl
theorem keyLits_array {P : Program} {t e : TypeId} {n m d : Nat} {cs : List Value} (g : Nat → List Lit) (hu : P.underlying t = some (.array n e)) (hm : P.cellsOf e = m) (ht : P.cellsOf t = cs.length)
    (hg : ∀ i, i < n → P.keyLits d e ((cs.drop (i * m)).take m) = some (g i)) : P.keyLits (d + 1) t cs = some ((List.range n).map g).flatten := by
  unfold Program.keyLits
  rw [hu]
  simp only [ht, if_true, hm]
  rw [mapM_some_range _ g _ (fun i hi => hg i (List.mem_range.1 hi))]
  rfl
theorem keyLits_u32 {P : Program} {e : TypeId} {d : Nat} (x : BitVec 32) (hu : P.underlying e = some (.int .u32)) : P.keyLits (d + 1) e [.int .u32 (n32 x)] = some [.int .u32 (n32 x)] := by
  unfold Program.keyLits
  rw [hu]
  have h1 := n32_nonneg x
  have h2 := n32_lt x
  have : (Lit.int .u32 (n32 x)).wf = true := by simp [Lit.wf, IntKind.min, IntKind.max, IntKind.signed, IntKind.bits]; omega
  simp [this]
theorem keyLits_u8 {P : Program} {e : TypeId} {d : Nat} (x : BitVec 8) (hu : P.underlying e = some (.int .u8)) : P.keyLits (d + 1) e [.int .u8 (n8 x)] = some [.int .u8 (n8 x)] := by
  unfold Program.keyLits
  rw [hu]
  have h1 := n8_nonneg x
  have h2 := n8_lt x
  have : (Lit.int .u8 (n8 x)).wf = true := by simp [Lit.wf, IntKind.min, IntKind.max, IntKind.signed, IntKind.bits]; omega
  simp [this]
theorem drop_take_one {α : Type} (f : Nat → α) (n i : Nat) (h : i < n) : (((List.range n).map f).drop (i * 1)).take 1 = [f i] := by
  apply List.ext_getElem?
  intro j
  match j with
  | 0 => simp [h]
  | j + 1 => simp; omega
/-- Arrays of bytes. -/
theorem keyLits_bytes {P : Program} {t e : TypeId} {n d : Nat} (b : Nat → BitVec 8) (hu : P.underlying t = some (.array n e)) (he : P.underlying e = some (.int .u8)) (hm : P.cellsOf e = 1) (ht : P.cellsOf t = n) :
    P.keyLits (d + 2) t ((List.range n).map fun i => .int .u8 (n8 (b i))) = some ((List.range n).map fun i => [Lit.int .u8 (n8 (b i))]).flatten :=
  keyLits_array (m := 1) (fun i => [Lit.int .u8 (n8 (b i))]) hu hm (by simp [ht]) (fun i hi => by rw [drop_take_one _ _ _ hi]; exact keyLits_u8 (b i) he)
theorem flatten_single {α : Type} (f : Nat → α) (l : List Nat) : (l.map fun i => [f i]).flatten = l.map f := by
  induction l with
  | nil => rfl
  | cons i l ih => simp [ih]
/-- '==' of arrays of bytes. -/
theorem run_eq_bytes {P : Program} {t e : TypeId} {n : Nat} (b c : Nat → BitVec 8) (w : World) (hk : P.keyTypeAt 10 t = true) (hu : P.underlying t = some (.array n e)) (he : P.underlying e = some (.int .u8)) (hm : P.cellsOf e = 1) (ht : P.cellsOf t = n) :
    (Op.equalIn 10000 t (.agg ((List.range n).map fun i => .int .u8 (n8 (b i))).toArray) (.agg ((List.range n).map fun i => .int .u8 (n8 (c i))).toArray)).run P w = .ok (decide (∀ i, i < n → b i = c i)) w := by
  have fa : ∀ b : Nat → BitVec 8, (Value.agg ((List.range n).map fun i => .int .u8 (n8 (b i))).toArray).formed P t = true := fun b => by
    unfold Value.formed
    rw [hu]
    simp [ht]
  obtain ⟨r, hr, hiff⟩ := run_equalIn_deep (P := P) 9990 10 t hk w 2 2 _ _ _ _ (fa b) (fa c) (by simpa [Value.cells] using keyLits_bytes (d := 0) b hu he hm ht) (by simpa [Value.cells] using keyLits_bytes (d := 0) c hu he hm ht)
  rw [hr]
  congr 1
  rw [Bool.eq_iff_iff, hiff, flatten_single (fun i => Lit.int .u8 (n8 (b i))), flatten_single (fun i => Lit.int .u8 (n8 (c i))), decide_eq_true_eq]
  constructor
  · intro h i hi
    have := List.map_inj_left.1 h i (List.mem_range.2 hi)
    simp only [Lit.int.injEq, true_and] at this
    rwa [n8_inj] at this
  · intro h
    refine List.map_congr_left (fun i hi => ?_)
    rw [h i (List.mem_range.1 hi)]
end Go.Proofs.YtddpfbeclmgndaaDoor
