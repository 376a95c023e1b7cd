/-
  A READER OF doq: Feed, Next, End by their contracts, over its row and the bytes that wait.
-/
import Derived.Test.YtgblfljbfaaipaaOwnAt
import Derived.Test.YtgblfljbfaaipaaEq
import Derived.Test.YtgblfljbfaaipaaOpenB
import Derived.RegionTactic
import Derived.ChangeAlike
import Derived.BigQuiet
import Derived.Deep.RegionWith
import Derived.Deep.QuietTactic
import Derived.WalkKit
import Derived.ProofKit
import Derived.Deep.DeepCutAuto
namespace Go.Proofs.Ytgblfljbfaaipaa
open Go Go.RowKit Go.BigFrame
set_option linter.unusedSimpArgs false
set_option linter.unusedVariables false
def rdC (v : Value) (over : Bool) : Array Value := #[v, .bool over]
def RT : TypeId := 37
/-- The reader in block r: the first n bytes of f wait, in a row of its own from block B on. -/
structure Rdr (B r : Nat) (v : Value) (over : Bool) (n : Nat) (f : Nat → BitVec 8) (w : World) : Prop where
  row : w.heap[r]? = some (.cells (rdC v over) RT (0, 0))
  own : OwnAt B v n f w
  base : B ≤ r
  apart : v.ownBlock ≠ some r
/-- What a call leaves. -/
structure TurnR (B r : Nat) (v v' : Value) (w w' : World) : Prop where
  size : w.heap.size ≤ w'.heap.size
  block : ∀ k, k < w.heap.size → k ≠ r → v.ownBlock ≠ some k → w'.heap[k]? = w.heap[k]?
  below : Below B w w'
  blk : v'.ownBlock = v.ownBlock ∨ ∃ k, v'.ownBlock = some k ∧ w.heap.size ≤ k
theorem TurnR.refl (B r : Nat) (v : Value) (w : World) : TurnR B r v v w w := ⟨Nat.le_refl _, fun _ _ _ _ => rfl, Below.refl _ _, .inl rfl⟩
theorem Rdr.c0 {B r n : Nat} {v : Value} {over : Bool} {f : Nat → BitVec 8} {w : World} (h : Rdr B r v over n f w) : w.cell? ⟨r, 0, none⟩ = some v := by rw [cell_of_row _ _ _ _ _ _ h.row]; rfl
theorem Rdr.c1 {B r n : Nat} {v : Value} {over : Bool} {f : Nat → BitVec 8} {w : World} (h : Rdr B r v over n f w) : w.cell? ⟨r, 1, none⟩ = some (.bool over) := by rw [cell_of_row _ _ _ _ _ _ h.row]; rfl
theorem Rdr.lt {B r n : Nat} {v : Value} {over : Bool} {f : Nat → BitVec 8} {w : World} (h : Rdr B r v over n f w) : r < w.heap.size := lt_row h.row
/-- Other blocks may change. -/
theorem Rdr.kept {B r n : Nat} {v : Value} {over : Bool} {f : Nat → BitVec 8} {w w' : World} (h : Rdr B r v over n f w) (hs : w.heap.size ≤ w'.heap.size) (hr : w'.heap[r]? = w.heap[r]?) (hk : ∀ g, v.ownBlock = some g → g < w.heap.size → w'.heap[g]? = w.heap[g]?) : Rdr B r v over n f w' :=
  ⟨hr.trans h.row, h.own.kept hs hk, h.base, h.apart⟩
theorem Rdr.later {B r n : Nat} {v : Value} {over : Bool} {f : Nat → BitVec 8} {w w' : World} (h : Rdr B r v over n f w) (hb : Below w.heap.size w w') : Rdr B r v over n f w' :=
  h.kept hb.size (hb.block r h.lt) (fun g _ hg => hb.block g hg)
/-- A cell of the reader's row has been set. -/
theorem Rdr.set1 {B r n : Nat} {v : Value} {over : Bool} {f : Nat → BitVec 8} {w w' : World} (h : Rdr B r v over n f w) (o2 : Bool) (S : RowSet w r RT (rdC v o2) w') : Rdr B r v o2 n f w' ∧ TurnR B r v v w w' :=
  ⟨⟨S.row, h.own.kept (by rw [S.size]; exact Nat.le_refl _) (fun g hg _ => S.other g (fun e => h.apart (by rw [hg, e]))), h.base, h.apart⟩,
    ⟨by rw [S.size]; exact Nat.le_refl _, fun k _ hk _ => S.other k hk, S.below B h.base, .inl rfl⟩⟩
theorem feed_nil (s : Value) (hs : ∃ S, s = .string S) (w : World) : Calls Try.prog 8 #[.pointer none, s] w fun e w' => e = .returned (.int .i64 1) ∧ w = w' := by
  obtain ⟨S, rfl⟩ := hs
  go_enter Try.func8, Try.ntmps8
  go_wp2_with fail
  go_ret
  exact ⟨rfl, rfl⟩
theorem next_nil (w : World) : Calls Try.prog 6 #[.pointer none] w fun e w' => e = .returned (.tuple #[.string ⟨#[]⟩, .bool false]) ∧ w = w' := by
  go_enter Try.func6, Try.ntmps6
  go_wp2_with fail
  go_ret2
  exact ⟨rfl, rfl⟩
theorem end_nil (w : World) : Calls Try.prog 9 #[.pointer none] w fun e w' => e = .returned (.int .i64 2) ∧ w = w' := by
  go_enter Try.func9, Try.ntmps9
  go_wp2_with fail
  go_ret
  exact ⟨rfl, rfl⟩
theorem none_any (w : World) : Calls Try.prog 5 #[] w fun e w' => e = .returned (.pointer none) ∧ w = w' := by
  go_enter Try.func5, Try.ntmps5
  go_wp2_with fail
  go_ret
  exact ⟨rfl, rfl⟩
theorem feed_over (B r n m : Nat) (v : Value) (f g : Nat → BitVec 8) (w : World) (h : Rdr B r v true n f w) :
    Calls Try.prog 8 #[.pointer (some ⟨r, 0, none⟩), .string (strOf g m)] w fun e w' => e = .returned (.int .i64 10) ∧ w = w' := by
  have c0 := h.c0
  have c1 := h.c1
  generalize strOf g m = S
  go_enter Try.func8, Try.ntmps8
  go_wp2_with fail
  go_ret
  exact ⟨rfl, rfl⟩
theorem feed_full (B r n m : Nat) (v : Value) (f g : Nat → BitVec 8) (w : World) (h : Rdr B r v false n f w) (hn : n ≤ 1048576) (hm : 1048576 < n + m) (hm2 : m ≤ 1000000000) :
    Calls Try.prog 8 #[.pointer (some ⟨r, 0, none⟩), .string (strOf g m)] w fun e w' => e = .returned (.int .i64 6) ∧ w = w' := by
  have c0 := h.c0
  have c1 := h.c1
  obtain ⟨a, cap, hv⟩ := h.own.slice
  rw [hv] at c0
  have hs := strOf_size g m
  generalize strOf g m = S at *
  have hb : (m : Int) > 1048576 - (n : Int) := by omega
  have hc : decide ((m : Int) > 1048576 - (n : Int)) = true := decide_eq_true hb
  clear h hv
  go_enter Try.func8, Try.ntmps8
  go_wp2_with fail
  go_ret
  exact ⟨rfl, rfl⟩
theorem feed_end {B r n k : Nat} {v v' : Value} {f g : Nat → BitVec 8} {w w1 w2 : World} {o o2 : Bool} (h : Rdr B r v o n f w) (ho : OwnAt B v' k g w1) (hg : GrewB w w1 v v') (S : RowSet w1 r RT (rdC v' o2) w2) :
    Rdr B r v' o2 k g w2 ∧ TurnR B r v v' w w2 := by
  have hap : v'.ownBlock ≠ some r := by
    rcases hg.blk with e | ⟨j, e, hj⟩
    · rw [e]; exact h.apart
    · rw [e]
      intro e2
      injection e2 with e2
      have := h.lt
      omega
  refine ⟨⟨S.row, ho.kept (by rw [S.size]; exact Nat.le_refl _) (fun k hk _ => S.other k (fun e => hap (by rw [hk, e]))), h.base, hap⟩,
    ⟨by rw [S.size]; exact hg.size, fun k hk hr hv => (S.other k hr).trans (hg.block k hk hv), (hg.below B h.own.base (fun k hk => (h.own.lt hk).1)).trans (S.below B h.base), hg.blk⟩⟩
theorem feed_ok (B r n m : Nat) (v : Value) (f g : Nat → BitVec 8) (w : World) (h : Rdr B r v false n f w) (hm : n + m ≤ 1048576) :
    Calls Try.prog 8 #[.pointer (some ⟨r, 0, none⟩), .string (strOf g m)] w fun e w' => e = .returned (.int .i64 0) ∧ ∃ v', Rdr B r v' false (n + m) (joinb f n g) w' ∧ TurnR B r v v' w w' := by
  have H := Lib.hid h
  have c0 := h.c0
  have c1 := h.c1
  obtain ⟨a, cap, hv⟩ := h.own.slice
  have hs := strOf_size g m
  have hsrc := Lib.hid (src_str g m w)
  generalize strOf g m = S at *
  have hb : ¬ ((m : Int) > 1048576 - (n : Int)) := by omega
  have hc : decide ((m : Int) > 1048576 - (n : Int)) = false := decide_eq_false hb
  subst hv
  have HM := Lib.hid hm
  have hn : n ≤ 1048576 := by omega
  clear h hm
  go_enter Try.func8, Try.ntmps8
  go_wp2_with (at_builtin; refine wpList_append_at (o := ⟨some 29, _, _, _, _, _⟩) rfl _ _ 9 rfl rfl rfl H.out.own hsrc.out (by have := HM.out; omega) ?_; intro v' w1 ho hg; obtain ⟨a2, c2, rfl⟩ := ho.slice; have O1 := Lib.hid ho; have G1 := Lib.hid hg; clear ho hg; have R0 := Lib.hid ((G1.out.block r H.out.lt H.out.apart).trans H.out.row); have C0 : w1.cell? ⟨r, 0, none⟩ = some (.slice a n cap) := by { rw [cell_of_row _ _ _ _ _ _ R0.out]; rfl }; have F0 : w1.frozen? ⟨r, 0, none⟩ = false := frozen_of_row _ _ _ _ _ R0.out)
  go_ret
  have S1 : RowSet w1 r RT (rdC (.slice a2 (n + m) c2) false) _ := rowSet_cell w1 r 0 RT (rdC (.slice a n cap) false) (.slice a2 (n + m) c2) R0.out
  exact ⟨rfl, _, feed_end H.out O1.out G1.out S1⟩
theorem Rdr.drewN {B r n : Nat} {v : Value} {over : Bool} {f : Nat → BitVec 8} {w : World} (h : Rdr B r v over n f w) (k : Nat) : Rdr B r v over n f (w.drewN k) ∧ TurnR B r v v w (w.drewN k) :=
  ⟨⟨h.row, h.own.kept (Nat.le_refl _) (fun _ _ _ => rfl), h.base, h.apart⟩, ⟨Nat.le_refl _, fun _ _ _ _ => rfl, below_drewN (Below.refl B w) k, .inl rfl⟩⟩
/-- End. -/
theorem end_any (B r n : Nat) (v : Value) (over : Bool) (f : Nat → BitVec 8) (w : World) (h : Rdr B r v over n f w) :
    Calls Try.prog 9 #[.pointer (some ⟨r, 0, none⟩)] w fun e w' => e = .returned (.int .i64 (if 0 < n then 2 else 0)) ∧ Rdr B r v true n f w' ∧ TurnR B r v v w w' := by
  have H := Lib.hid h
  have c0 := h.c0
  have c1 := h.c1
  have f1 : w.frozen? ⟨r, 1, none⟩ = false := frozen_of_row _ _ _ _ _ h.row
  obtain ⟨a, cap, hv⟩ := h.own.slice
  subst hv
  have S1 := Lib.hid (h.set1 true (rowSet_cell w r 1 RT (rdC (.slice a n cap) over) (.bool true) h.row))
  have c0' := S1.out.1.c0
  clear h
  by_cases hn : 0 < n
  · rw [if_pos hn]
    have h1 : decide ((n : Int) > 0) = true := decide_eq_true (by omega)
    go_enter Try.func9, Try.ntmps9
    go_wp2_with fail
    go_ret
    exact ⟨rfl, S1.out⟩
  · rw [if_neg hn]
    have h1 : decide ((n : Int) > 0) = false := decide_eq_false (by omega)
    go_enter Try.func9, Try.ntmps9
    go_wp2_with fail
    go_ret
    exact ⟨rfl, S1.out⟩
/-- Next: nothing is there wholly. -/
theorem next_few (B r n : Nat) (v : Value) (over : Bool) (f : Nat → BitVec 8) (w : World) (h : Rdr B r v over n f w) (hn : n < 2) :
    Calls Try.prog 6 #[.pointer (some ⟨r, 0, none⟩)] w fun e w' => e = .returned (.tuple #[.string ⟨#[]⟩, .bool false]) ∧ w = w' := by
  have c0 := h.c0
  obtain ⟨a, cap, hv⟩ := h.own.slice
  subst hv
  clear h
  have h1 : decide ((n : Int) < 2) = true := decide_eq_true (by omega)
  go_enter Try.func6, Try.ntmps6
  go_wp2_with fail
  go_ret2
  exact ⟨rfl, rfl⟩
/-- A message's count. -/
def cnt (f : Nat → BitVec 8) : Nat := (f 0).toNat * 256 + (f 1).toNat
theorem or_byte (x : Nat) (y : BitVec 8) (hx : x < 4294967296) : bits .or .i64 (wrap64 ((x : Int) * 256)) (wrap64 (n8 y)) = ((x * 256 + y.toNat : Nat) : Int) := by
  have hy := y.isLt
  have e1 : wrap64 ((x : Int) * 256) = ((x * 256 : Nat) : Int) := by unfold wrap64; omega
  have e2 : wrap64 (n8 y) = (y.toNat : Int) := by rw [n8_nat]; unfold wrap64; omega
  rw [e1, e2]
  show IntKind.wrap .i64 _ = _
  have e3 : (BitVec.ofInt (IntKind.bits .i64) ((x * 256 : Nat) : Int) ||| BitVec.ofInt (IntKind.bits .i64) (y.toNat : Int)).toNat = x * 256 + y.toNat := by
    show (BitVec.ofInt 64 ((x * 256 : Nat) : Int) ||| BitVec.ofInt 64 (y.toNat : Int)).toNat = _
    rw [BitVec.toNat_or, BitVec.toNat_ofInt, BitVec.toNat_ofInt]
    rw [show (((x * 256 : Nat) : Int) % ((2 ^ 64 : Nat) : Int)).toNat = x <<< 8 by rw [Nat.shiftLeft_eq]; omega, show ((y.toNat : Int) % ((2 ^ 64 : Nat) : Int)).toNat = y.toNat by omega]
    rw [← Nat.shiftLeft_add_eq_or_of_lt (by omega), Nat.shiftLeft_eq]
  rw [e3]
  simp only [IntKind.wrap, IntKind.bits, IntKind.signed]
  simp
  omega
theorem or_cnt (x y : BitVec 8) : bits .or .i64 (wrap64 (wrap64 (n8 x) * 256)) (wrap64 (n8 y)) = ((x.toNat * 256 + y.toNat : Nat) : Int) := by
  have hx := x.isLt
  have e : wrap64 (n8 x) = (x.toNat : Int) := by rw [n8_nat]; unfold wrap64; omega
  rw [e]
  exact or_byte x.toNat y (by omega)
theorem cnt_lt (f : Nat → BitVec 8) : cnt f < 65536 := by
  have := (f 0).isLt
  have := (f 1).isLt
  unfold cnt
  omega
theorem next_none (B r n : Nat) (v : Value) (over : Bool) (f : Nat → BitVec 8) (w : World) (h : Rdr B r v over n f w) (hn : 2 ≤ n) (hN : n ≤ 1048576) (hc : cnt f = 0 ∨ n < 2 + cnt f) :
    Calls Try.prog 6 #[.pointer (some ⟨r, 0, none⟩)] w fun e w' => e = .returned (.tuple #[.string ⟨#[]⟩, .bool false]) ∧ Rdr B r v over n f w' ∧ TurnR B r v v w w' := by
  have H := Lib.hid h
  have c0 := h.c0
  obtain ⟨g, o, cap, hv, hcap, hmx, hcell⟩ := h.own.at (i := 0) (by omega)
  subst hv
  have l0 : 0 < n := by omega
  have l1 : 1 < n := by omega
  have d0 := hcell 0 (by omega)
  rw [Nat.add_zero] at d0
  have d1 := hcell 1 (by omega)
  have h1 : decide ((n : Int) < 2) = false := decide_eq_false (by omega)
  have hk := or_cnt (f 0) (f 1)
  have hlt := cnt_lt f
  clear h hcell
  generalize hC : cnt f = C at *
  unfold cnt at hC
  rw [hC] at hk
  clear hC
  by_cases hz : C = 0
  · subst hz
    have h2 : decide (((0 : Nat) : Int) = 0) = true := rfl
    clear hc
    go_enter Try.func6, Try.ntmps6
    go_upto_region 3 with (fail)
    go_region
    try simp only [hk]
    go_wp2_with fail
    go_ret2
    exact ⟨rfl, H.out.drewN _⟩
  · have hgt : n < 2 + C := by omega
    have h2 : decide ((C : Int) = 0) = false := decide_eq_false (by omega)
    have h3 : decide (2 + (C : Int) > (n : Int)) = true := decide_eq_true (by omega)
    have h4 : (C : Int) ≠ 0 := by omega
    have h5 : 2 + (C : Int) > (n : Int) := by omega
    have h6 : wrap64 (2 + (C : Int)) = 2 + (C : Int) := by unfold wrap64; omega
    clear hc
    go_enter Try.func6, Try.ntmps6
    go_upto_region 3 with (fail)
    go_region
    try simp only [hk]
    go_wp2_with fail
    go_ret2
    exact ⟨rfl, H.out.drewN _⟩
theorem quiet_of_run {P : Program} {x : Sem Value} {v : Value} {w : World} (h : x.run P w = .ok v w) : (x >>= fun v => pure (Next.value v)).run P w = .ok (.value v) w := by
  rw [Sem.run_bind, h]; rfl
theorem run_mid_at (w : World) (g o lo hi n c : Nat) (L H : Int) (hL : L = (lo : Int)) (hH : H = (hi : Int)) (h1 : lo < hi) (h2 : hi ≤ n) (h3 : n ≤ c) :
    (Instr.sliceAt 23 (.slice (some ⟨g, o, none⟩) n c) (some (.int .i64 L)) (some (.int .i64 H)) none).run Try.prog w = .ok (.slice (some ⟨g, o + lo, none⟩) (hi - lo) (c - lo)) w := by
  subst hL hH
  have hu : Try.prog.underlying 23 = some (.slice (Try.prog.elem 23)) := by kernel_rfl
  have e0 : (0 : Int) ≤ (lo : Int) := by omega
  have e1 : (lo : Int) ≤ (hi : Int) := by omega
  have e2 : (hi : Int) ≤ (c : Int) := by omega
  have e3 : ¬ c = lo := by omega
  have e4 : ((⟨g, o, none⟩ : Addr).add lo) = ⟨g, o + lo, none⟩ := by unfold Addr.add; split <;> simp_all
  rw [run_sliceAt_slice (t := 23) (h := hu), run_slice_any (t := 23) (ht := hu)]
  simp [Instr.sliceBounds, go_sem, e0, e1, e2, e3, e4]
  try omega
/-- The front cut off, as the program does it. -/
theorem run_cut (g o k n c : Nat) (K : Int) (hK : K = (k : Int)) (hk : k ≤ n) (hn : n ≤ c) :
    ∃ a', (∀ w : World, (Instr.sliceAt 23 (.slice (some ⟨g, o, none⟩) n c) (some (.int .i64 K)) none none).run Try.prog w = .ok (.slice a' (n - k) (c - k)) w) ∧ (Value.slice a' (n - k) (c - k)).ownBlock = some g ∧
      ∀ (B : Nat) (f : Nat → BitVec 8) (w : World), OwnAt B (.slice (some ⟨g, o, none⟩) n c) n f w → OwnAt B (.slice a' (n - k) (c - k)) (n - k) (fun i => f (k + i)) w := by
  subst hK
  refine ⟨if c = k then some ⟨g, o, none⟩ else some ⟨g, o + k, none⟩, fun w => ?_, by split <;> rfl, fun B f w h => ?_⟩
  · have hu : Try.prog.underlying 23 = some (.slice (Try.prog.elem 23)) := by kernel_rfl
    have e0 : (0 : Int) ≤ (k : Int) := by omega
    have e1 : (k : Int) ≤ (n : Int) := by omega
    have e4 : ((⟨g, o, none⟩ : Addr).add k) = ⟨g, o + k, none⟩ := by unfold Addr.add; split <;> simp_all
    rw [run_sliceAt_slice (t := 23) (h := hu), run_slice_any (t := 23) (ht := hu)]
    by_cases hc : c = k
    · simp [Instr.sliceBounds, go_sem, e0, e1, hc]
    · simp [Instr.sliceBounds, go_sem, e0, e1, hc, e4]
  · by_cases hc : c = k
    · rw [if_pos hc]
      have hnk : n = k := by omega
      refine ⟨?_, h.base⟩
      rcases h.row with ⟨h1, _⟩ | ⟨g', o', cap', cur, h0, hB, hg, h1, h2, h3, h4⟩
      · cases h1
      · injection h0 with e1 e2 e3
        injection e1 with e1
        injection e1 with e1 e4
        subst e1 e3 e4
        exact .inr ⟨g, o, c - k, cur, rfl, hB, hg, by omega, by omega, by omega, fun i hi => by omega⟩
    · rw [if_neg hc]
      exact h.cut k hk
theorem next_end {B r n g k j cap : Nat} {v' : Value} {f p : Nat → BitVec 8} {w w2 : World} {o o2 : Bool} (h : Rdr B r (.slice (some ⟨g, j, none⟩) n cap) o n f w) (ho : OwnAt B v' k p w) (hb : v'.ownBlock = some g) (S : RowSet w.drew r RT (rdC v' o2) w2) :
    Rdr B r v' o2 k p w2 ∧ TurnR B r (.slice (some ⟨g, j, none⟩) n cap) v' w w2 := by
  have hap : v'.ownBlock ≠ some r := by rw [hb]; exact h.apart
  refine ⟨⟨S.row, (ho.kept (w' := w2) (by rw [S.size]; exact Nat.le_refl _) (fun k hk _ => S.other k (fun e => hap (by rw [hk, e])))), h.base, hap⟩,
    ⟨by rw [S.size]; exact Nat.le_refl _, fun k hk hr hv => S.other k hr, ((Below.refl B w).drew).trans (S.below B h.base), .inl hb⟩⟩
set_option maxHeartbeats 2000000 in
/-- Next: a message is there. -/
theorem next_ok (B r n : Nat) (v : Value) (over : Bool) (f : Nat → BitVec 8) (w : World) (h : Rdr B r v over n f w) (hN : n ≤ 1048576) (hc : cnt f ≠ 0) (hn : 2 + cnt f ≤ n) :
    Calls Try.prog 6 #[.pointer (some ⟨r, 0, none⟩)] w fun e w' => e = .returned (.tuple #[.string (strOf (fun i => f (2 + i)) (cnt f)), .bool true]) ∧ ∃ v', Rdr B r v' over (n - (2 + cnt f)) (fun i => f (2 + cnt f + i)) w' ∧ TurnR B r v v' w w' := by
  have H := Lib.hid h
  have c0 := h.c0
  obtain ⟨g, o, cap, hv, hcap, hmx, hcell⟩ := h.own.at (i := 0) (by omega)
  subst hv
  have l0 : 0 < n := by omega
  have l1 : 1 < n := by omega
  have d0 := hcell 0 (by omega)
  rw [Nat.add_zero] at d0
  have d1 := hcell 1 (by omega)
  have h1 : decide ((n : Int) < 2) = false := decide_eq_false (by omega)
  have hk := or_cnt (f 0) (f 1)
  have hlt := cnt_lt f
  have HC := Lib.hid hcell
  have f0 : w.frozen? ⟨r, 0, none⟩ = false := frozen_of_row _ _ _ _ _ h.row
  have hown := h.own
  clear h hcell
  generalize hC : cnt f = C at *
  unfold cnt at hC
  rw [hC] at hk
  clear hC
  have h2 : decide ((C : Int) = 0) = false := decide_eq_false (by omega)
  have h3 : decide (2 + (C : Int) > (n : Int)) = false := decide_eq_false (by omega)
  have h4 : (C : Int) ≠ 0 := by omega
  have h5 : ¬ (2 + (C : Int) > (n : Int)) := by omega
  have h6 : wrap64 (2 + (C : Int)) = 2 + (C : Int) := by unfold wrap64; omega
  have h7 : 2 + (C : Int) ≤ (cap : Int) := by omega
  have h8 : 2 ≤ 2 + (C : Int) := by omega
  have h9 : 2 + (C : Int) ≤ (n : Int) := by omega
  obtain ⟨a', s3, ha', hcut⟩ := run_cut g o (2 + C) n cap (2 + (C : Int)) (by omega) hn hcap
  have HCUT := Lib.hid hcut
  have s1 := fun w' => run_mid_at w' g o 2 (2 + C) n cap 2 (2 + (C : Int)) rfl (by omega) (by omega) hn hcap
  rw [show 2 + C - 2 = C by omega] at s1
  have s2 := fun (w' : World) (hw : ∀ i, i < C → w'.cell? ⟨g, o + 2 + i, none⟩ = some (.int .u8 (n8 (f (2 + i))))) => conv_str (fun i => f (2 + i)) g (o + 2) C (cap - 2) w' hw
  have s2 := s2 w.drew (fun i hi => by rw [Nat.add_assoc]; exact HC.out (2 + i) (by omega))
  generalize strOf (fun i => f (2 + i)) C = S at *
  have hb : (.slice a' (n - (2 + C)) (cap - (2 + C)) : Value).ownBlock = some g := ha'
  have HB := Lib.hid hb
  generalize n - (2 + C) = n' at *
  generalize cap - (2 + C) = c' at *
  have c0d : w.drew.cell? ⟨r, 0, none⟩ = some (.slice (some ⟨g, o, none⟩) n cap) := c0
  have f0d : w.drew.frozen? ⟨r, 0, none⟩ = false := f0
  clear hcut hown ha' hb HC hn hcap hmx
  go_enter Try.func6, Try.ntmps6
  go_upto_region 3 with (fail)
  go_region
  try simp only [hk]
  go_upto_region 7 with (fail)
  go_wp2_with fail
  go_ret2
  have S1 : RowSet w.drew r RT (rdC (.slice a' n' c') over) _ := rowSet_cell w.drew r 0 RT (rdC (.slice (some ⟨g, o, none⟩) n cap) over) (.slice a' n' c') H.out.row
  exact ⟨rfl, _, next_end H.out (HCUT.out _ _ _ H.out.own) HB.out S1⟩
end Go.Proofs.Ytgblfljbfaaipaa
