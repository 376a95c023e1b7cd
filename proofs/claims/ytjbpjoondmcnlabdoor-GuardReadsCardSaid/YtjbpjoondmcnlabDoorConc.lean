/-
  slices.Grow and slices.Concat of rows of bytes: made from DoqB.
-/
import Derived.Test.YtjbpjoondmcnlabDoorOwnAt
import Derived.Test.YtjbpjoondmcnlabDoorNoughts
import Derived.Test.YtjbpjoondmcnlabDoorMg06
import Derived.RegionTactic
import Derived.ChangeAlike
import Derived.BigQuiet
import Derived.Deep.RegionWith
import Derived.Deep.QuietTactic
import Derived.WalkKit
import Derived.ProofKit
import Derived.Deep.DeepCutAuto
namespace Go.Proofs.YtjbpjoondmcnlabDoor
open Go Go.RowKit Go.BigFrame
set_option linter.unusedSimpArgs false
set_option linter.unusedVariables false
set_option maxRecDepth 100000
theorem append_zeros_nil (ty : TypeId) (k : Nat) (w : World) (hk : k ≤ 100000) (hk1 : 1 ≤ k) :
    (Builtin.append_ #[31, 3] ty #[.slice none 0 0, .int .i64 (k : Int)]).run Tryd.prog w = (Builtin.append_ #[31, 9] ty #[.slice none 0 0, .string (strOf (fun _ => 0#8) k)]).run Tryd.prog w := by
  obtain ⟨i, hi, hz, hsz, hby⟩ := info_u8'
  have h1 := under_bytes
  have h2 : Tryd.prog.underlying 3 = some (.int .i64) := by kernel_rfl
  have h3 : Tryd.prog.underlying 9 = some .string := by kernel_rfl
  have hs := strOf_size (fun _ => 0#8) k
  have hf : ∀ w', (Builtin.firstCells 1 k (.string (strOf (fun _ => 0#8) k))).run Tryd.prog w' = .ok (firsts (fun _ => 0#8) k).toArray w' := fun w' => by
    have h := firstCells_string (P := Tryd.prog) (strOf (fun _ => 0#8) k) w'
    rw [hs, byteCells_str] at h
    exact h
  have hl : ∀ w', (Builtin.lenOf (.string (strOf (fun _ => 0#8) k))).run Tryd.prog w' = .ok k w' := fun w' => by simp [Builtin.lenOf, hs]
  have hw : IntKind.i64.wrap (k : Int) = (k : Int) := by rw [IntKind.wrap_i64]; omega
  generalize strOf (fun _ => 0#8) k = S at *
  have q1 : ¬ ((k : Int) < 0) := by omega
  have q2 : ¬ ((281474976710656 : Int) < (k : Int)) := by omega
  have q3 : ¬ k = 0 := by omega
  have h63' : ¬ (9223372036854775807 < ((k : Int))) := by omega
  have h48 := growslice_fits_wide (need := k) (old := 0) (bytes := 1) (by omega) (by omega)
  rw [Nat.mul_one] at h48
  have h48' : ¬ (281474976710656 < Builtin.nextslicecap k 0) := by omega
  simp [Builtin.append_, run_underlying h1, run_underlying h2, run_underlying h3, sizeOf, typeInfo, zeroValue, hi, hz, hsz, hby, hl, hf, hw, zerosK k, asInt, asIntOf, q1, q2, q3, h63', h48', h48]
  try (intro h; exfalso; omega)
theorem run_append_zeros_nil (ty : TypeId) (k : Nat) (w : World) (hk : k ≤ 100000) (hk1 : 1 ≤ k) :
    ∃ v' w', (Builtin.append_ #[31, 3] ty #[.slice none 0 0, .int .i64 (k : Int)]).run Tryd.prog w = .ok v' w' ∧ OwnAt w.heap.size v' k (joinb (fun _ => 0#8) 0 (fun _ => 0#8)) w' ∧ GrewB w w' (.slice none 0 0) v' := by
  obtain ⟨v', w', h1, h2, h3⟩ := run_append_at ty (OwnAt.nil w.heap.size (fun _ => 0#8) w (Nat.le_refl _)) (src_str (fun _ => 0#8) k w) (by omega)
  rw [Nat.zero_add] at h2
  exact ⟨v', w', (append_zeros_nil ty k w hk hk1).trans h1, h2, h3⟩
theorem wpList_zeros_nil {ops : Array Oper} {rest : List Oper} {o : Oper} {a : Act} {w : World} {Q : Exit → Act → World → Prop} (hgd : o.guard = none) (s x : Operand) (k : Nat) (hk : k ≤ 100000) (hk1 : 1 ≤ k)
    (ho : o.op = .call { callee := .builtin .append, args := #[s, x], argTypes := #[31, 3] }) (hs : a.eval s = .slice none 0 0) (hx : a.eval x = .int .i64 (k : Int))
    (h : ∀ v' w', OwnAt w.heap.size v' k (joinb (fun _ => 0#8) 0 (fun _ => 0#8)) w' → GrewB w w' (.slice none 0 0) v' → wpList Tryd.prog ops Q rest (a.put o.dst v') w') : wpList Tryd.prog ops Q (o :: rest) a w :=
  wpList_plain hgd fun _ hK => by
    obtain ⟨v', w', hr, h2, h3⟩ := run_append_zeros_nil o.type k w hk hk1
    unfold Oper.wp execOp
    simp only [ho, resolve, invoke, builtin, Sem.run_bind, Sem.run_pure, Result.andThen_ok, List.map_toArray, List.map_cons, List.map_nil, hs, hx, hr]
    exact hK _ _ (h v' w' h2 h3)
theorem run_upto_cc (w : World) (a : Option Addr) (k m c : Nat) (K : Int) (hK : K = (k : Int)) (hk : k ≤ m) (hm : m ≤ c) : (Instr.sliceAt 31 (.slice a m c) none (some (.int .i64 K)) none).run Tryd.prog w = .ok (.slice a k c) w := by
  subst hK
  have hkc : k ≤ c := Nat.le_trans hk hm
  have hu : Tryd.prog.underlying 31 = some (.slice (Tryd.prog.elem 31)) := by kernel_rfl
  rw [run_sliceAt_slice (t := 31) (h := hu), run_slice_any (t := 31) (ht := hu)]
  have h0 : (0 : Int) ≤ (k : Int) := by omega
  have h1 : (k : Int) ≤ (c : Int) := by omega
  simp [Instr.sliceBounds, go_sem, h0, h1]
/-- Only the first k. -/
theorem OwnAt.upto {B n : Nat} {a : Option Addr} {c : Nat} {f : Nat → BitVec 8} {w : World} (h : OwnAt B (.slice a n c) n f w) (k : Nat) (hk : k ≤ n) : OwnAt B (.slice a k c) k f w := by
  refine ⟨?_, h.base⟩
  rcases h.row with ⟨h1, h2⟩ | ⟨g, o, cap, cur, h0, hB, hg, h1, h2, h3, h4⟩
  · injection h1 with e1 e2 e3
    subst e1 e3
    exact .inl ⟨by rw [show k = 0 by omega], by omega⟩
  · injection h0 with e1 e2 e3
    subst e1 e3
    exact .inr ⟨g, o, c, cur, rfl, hB, hg, by omega, h2, h3, fun i hi => h4 i (by omega)⟩
theorem below_of_grew {w w1 : World} {v v' : Value} (h : GrewB w w1 v v') (hv : v.ownBlock = none) : Below w.heap.size w w1 := h.below _ (Nat.le_refl _) (fun k hk => by rw [hv] at hk; cases hk)
set_option maxHeartbeats 2000000 in
/-- slices.Grow of none. -/
theorem grow_nil (k : Nat) (hk : k ≤ 100000) (hk1 : 1 ≤ k) (w : World) :
    Calls Tryd.prog 53 #[.slice none 0 0, .int .i64 (k : Int)] w fun e w' => ∃ v, e = .returned v ∧ OwnAt w.heap.size v 0 (fun _ => 0#8) w' ∧ Below w.heap.size w w' := by
  have s0 := fun w' => run_upto_cc w' none 0 0 0 0 rfl (Nat.le_refl _) (Nat.le_refl _)
  have h1 : ¬ ((k : Int) < 0) := by omega
  have h2 : (k : Int) > 0 := by omega
  have h3 : decide ((k : Int) < 0) = false := decide_eq_false h1
  have h4 : decide ((k : Int) > 0) = true := decide_eq_true h2
  have h5 : wrap64 (k : Int) = (k : Int) := by unfold wrap64; omega
  go_enter Tryd.func53, Tryd.ntmps53
  go_wp2_with (at_builtin; refine wpList_zeros_nil (o := ⟨some 22, _, _, _, _, _⟩) rfl _ _ k hk hk1 rfl rfl rfl ?_; intro v' w1 ho hg; obtain ⟨a2, c2, rfl⟩ := ho.slice; have O1 := Lib.hid ho; have G1 := Lib.hid (below_of_grew hg rfl); have s1 := fun w' => run_upto_cc w' a2 0 k c2 0 rfl (by omega) (by rcases ho.row with ⟨h1, h2⟩ | ⟨g, o, cap, cur, h0, hB, hg, h1, h2, h3, h4⟩; { omega }; { injection h0 with e1 e2 e3; omega }); clear ho hg)
  go_ret
  exact ⟨_, rfl, (O1.out.upto 0 (by omega)).congr (fun i hi => by omega), G1.out⟩
/-- What parts make together. -/
def lenTo (L : Nat → Nat) : Nat → Nat
  | 0 => 0
  | k + 1 => lenTo L k + L k
def catTo (L : Nat → Nat) (F : Nat → Nat → BitVec 8) : Nat → Nat → BitVec 8
  | 0 => fun _ => 0#8
  | k + 1 => joinb (catTo L F k) (lenTo L k) (F k)
theorem lenTo_le (L : Nat → Nat) {i j : Nat} (h : i ≤ j) : lenTo L i ≤ lenTo L j := by
  induction j with
  | zero => rw [show i = 0 by omega]; exact Nat.le_refl _
  | succ j ih =>
    by_cases h1 : i = j + 1
    · rw [h1]; exact Nat.le_refl _
    · exact Nat.le_trans (ih (by omega)) (Nat.le_add_right _ _)
set_option maxHeartbeats 4000000 in
/-- slices.Concat of n rows of bytes. -/
theorem concat_any (lb lo n lc : Nat) (A : Nat → Option Addr) (L C : Nat → Nat) (F : Nat → Nat → BitVec 8) (w : World) (hn : n ≤ 1000) (hlen : lenTo L n ≤ 100000) (h1 : 1 ≤ lenTo L n)
    (hcell : ∀ k, k < n → w.cell? ⟨lb, lo + k, none⟩ = some (.slice (A k) (L k) (C k))) (hlb : lb < w.heap.size) (hin : ∀ k, k < n → BytesIn w (A k) (L k) (F k)) :
    Calls Tryd.prog 29 #[.slice (some ⟨lb, lo, none⟩) n lc] w fun e w' => ∃ v, e = .returned v ∧ OwnAt w.heap.size v (lenTo L n) (catTo L F n) w' ∧ Below w.heap.size w w' := by
  have HC := Lib.hid hcell
  have HI := Lib.hid hin
  have HL := Lib.hid hlen
  clear hcell hin hlen
  go_enter Tryd.func29, Tryd.ntmps29
  go_wp2_with fail
  go_loopw [3, 5, 11] (fun s3 s5 s11 wr => ∃ k : Nat, k ≤ n ∧ s11 = .int .i64 (k : Int) ∧ s3 = .int .i64 (lenTo L k : Int) ∧ w = wr) (fun _ _ s11 _ => n - (intOf s11).toNat)
  case atStart => exact ⟨0, by omega, rfl, rfl, rfl⟩
  case round =>
    obtain ⟨k, hk, rfl, rfl, rfl⟩ := hrel
    by_cases hlt : k < n
    · have hlI : (k : Int) < (n : Int) := by omega
      have k1 := HC.out k hlt
      have hle : lenTo L k + L k ≤ 100000 := Nat.le_trans (lenTo_le L (show k + 1 ≤ n from hlt)) HL.out
      go_wp2_with fail
      go_roundw
      case rel => exact ⟨k + 1, by omega, by go_num, congrArg (Value.int .i64) (by show _ = ((lenTo L k + L k : Nat) : Int); omega), trivial⟩
      case measure => (simp [intOf] <;> omega)
    · obtain rfl : k = n := by omega
      have hN : ¬ ((k : Int) < (k : Int)) := by omega
      have CG := Lib.hid (fun w => grow_nil (lenTo L k) HL.out h1 w)
      go_wp2_with (go_at_call 53; refine (CG.out _).mono ?_; rintro e w1 ⟨v1, rfl, ho, hb⟩; have O1 := Lib.hid ho; have B1 := Lib.hid hb; clear ho hb)
      go_loopw [6, 8, 27] (fun s6 s8 s27 wr => ∃ j : Nat, j ≤ k ∧ s27 = .int .i64 (j : Int) ∧ OwnAt w.heap.size s6 (lenTo L j) (catTo L F j) wr ∧ Below w.heap.size w wr) (fun _ _ s27 _ => k - (intOf s27).toNat)
      case atStart => exact ⟨0, by omega, rfl, O1.out, B1.out⟩
      case round =>
        obtain ⟨j, hj, rfl, ho, hb⟩ := hrel
        have O2 := Lib.hid ho
        have B2 := Lib.hid hb
        clear ho hb
        by_cases hlt : j < k
        · have hlI : (j : Int) < (k : Int) := by omega
          have k1 : wr.cell? ⟨lb, lo + j, none⟩ = some (.slice (A j) (L j) (C j)) := by
            rw [B2.out.cell (p := ⟨lb, lo + j, none⟩) hlb]
            exact HC.out j hlt
          have hle : lenTo L j + L j ≤ 100000 := Nat.le_trans (lenTo_le L (show j + 1 ≤ k from hlt)) HL.out
          have SR := Lib.hid (src_in (bytesIn_later (HI.out j hlt) B2.out) (C j))
          go_wp2_with (at_builtin; refine wpList_append_at (o := ⟨some 33, _, _, _, _, _⟩) rfl _ _ 31 rfl rfl rfl O2.out SR.out (by omega) ?_; intro v' w4 ho hg; obtain ⟨a2, c2, rfl⟩ := ho.slice; have O4 := Lib.hid ho; have G4 := Lib.hid hg; clear ho hg)
          go_roundw
          case rel => exact ⟨j + 1, by omega, by go_num, O4.out, B2.out.trans (G4.out.below _ O2.out.base (fun k hk => (O2.out.lt hk).1))⟩
          case measure => (simp [intOf] <;> omega)
        · obtain rfl : j = k := by omega
          have hN2 : ¬ ((j : Int) < (j : Int)) := by omega
          go_wp2_with fail
          go_ret
          exact ⟨_, rfl, O2.out, B2.out⟩
end Go.Proofs.YtjbpjoondmcnlabDoor
