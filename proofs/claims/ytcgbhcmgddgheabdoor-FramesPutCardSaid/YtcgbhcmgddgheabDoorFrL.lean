/-
  FRAMES' READER: number, need, atMost, text.
-/
import Derived.Test.YtcgbhcmgddgheabDoorFrK
import Derived.Test.YtcgbhcmgddgheabDoorChg
namespace Go.Proofs.YtcgbhcmgddgheabDoor
open Go Go.RowKit Go.BigFrame
set_option linter.unusedSimpArgs false
set_option linter.unusedVariables false
set_option maxRecDepth 100000
def rdC (a : Option Addr) (len cap p : Nat) (e : Int) : Array Value := #[.slice a len cap, .int .i64 (p : Int), .int .i64 e]
/-- A reader in block b: bytes, how many were read, the first error. -/
structure Rd (w : World) (b : Nat) (a : Option Addr) (len cap : Nat) (f : Nat → BitVec 8) (p : Nat) (e : Int) : Prop where
  row : w.heap[b]? = some (.cells (rdC a len cap p e) 64 (0, 0))
  inB : BytesIn w a len f
  lc : len ≤ cap
  cm : cap ≤ maxLen
  pl : p ≤ len
  off : ∀ x, a = some x → x.block ≠ b
theorem cells3 {w : World} {B : Nat} {T : TypeId} {x0 x1 x2 : Value} (h : w.heap[B]? = some (.cells #[x0, x1, x2] T (0, 0))) :
    w.cell? ⟨B, 0, none⟩ = some x0 ∧ w.cell? ⟨B, 1, none⟩ = some x1 ∧ w.cell? ⟨B, 2, none⟩ = some x2 := by
  refine ⟨?_, ?_, ?_⟩ <;> rw [cell_of_row _ _ _ _ _ _ h] <;> rfl
theorem Rd.drew {w : World} {b : Nat} {a : Option Addr} {len cap : Nat} {f : Nat → BitVec 8} {p : Nat} {e : Int} (h : Rd w b a len cap f p e) : Rd w.drew b a len cap f p e :=
  ⟨h.row, h.inB, h.lc, h.cm, h.pl, h.off⟩
theorem Rd.set {w w' : World} {b : Nat} {a : Option Addr} {len cap : Nat} {f : Nat → BitVec 8} {p : Nat} {e : Int} (h : Rd w b a len cap f p e) {p' : Nat} {e' : Int} (hp : p' ≤ len)
    (hr : RowSet w b 64 (rdC a len cap p' e') w') : Rd w' b a len cap f p' e' ∧ Chg b w w' :=
  ⟨⟨hr.row, h.inB.chg hr.chg h.off, h.lc, h.cm, hp, h.off⟩, hr.chg⟩
theorem Rd.setE {w : World} {b : Nat} {a : Option Addr} {len cap : Nat} {f : Nat → BitVec 8} {p : Nat} {e : Int} (h : Rd w b a len cap f p e) (e' : Int) :
    Rd (w.setCell ⟨b, 2, none⟩ (.int .i64 e')) b a len cap f p e' ∧ Chg b w (w.setCell ⟨b, 2, none⟩ (.int .i64 e')) :=
  h.set h.pl (rowSet_cell w b 2 _ (rdC a len cap p e) (.int .i64 e') h.row)
theorem Rd.setP {w : World} {b : Nat} {a : Option Addr} {len cap : Nat} {f : Nat → BitVec 8} {p : Nat} {e : Int} (h : Rd w b a len cap f p e) (p' : Nat) (hp : p' ≤ len) :
    Rd (w.setCell ⟨b, 1, none⟩ (.int .i64 (p' : Int))) b a len cap f p' e ∧ Chg b w (w.setCell ⟨b, 1, none⟩ (.int .i64 (p' : Int))) :=
  h.set hp (rowSet_cell w b 1 _ (rdC a len cap p e) (.int .i64 (p' : Int)) h.row)
theorem Rd.below {w w' : World} {b : Nat} {a : Option Addr} {len cap : Nat} {f : Nat → BitVec 8} {p : Nat} {e : Int} (h : Rd w b a len cap f p e) (hb : Below w.heap.size w w') : Rd w' b a len cap f p e := by
  refine ⟨(hb.block _ (lt_row h.row)).trans h.row, ?_, h.lc, h.cm, h.pl, h.off⟩
  refine ⟨h.inB.1, ?_⟩
  rcases h.inB.2 with h0 | ⟨k, o, e1, hk, hc⟩
  · exact .inl h0
  · exact .inr ⟨k, o, e1, Nat.lt_of_lt_of_le hk hb.size, fun i hi => by rw [hb.cell (p := ⟨k, o + i, none⟩) hk]; exact hc i hi⟩
/-- What a step of a reader answers, and what it leaves. -/
def RdPost (b : Nat) (a : Option Addr) (len cap : Nat) (f : Nat → BitVec 8) (w : World) (v : Value) (p : Nat) (e : Int) (x : Ending) (w' : World) : Prop :=
  x = .returned v ∧ Rd w' b a len cap f p e ∧ Chg b w w'
theorem bytesIn_cut {w : World} {a a' : Option Addr} {len cap lo n : Nat} {f : Nat → BitVec 8} (hb : BytesIn w a len f) (hn : lo + n ≤ len) (hc : len ≤ cap) (ha : cap ≠ lo → a' = a.map (·.add lo)) : BytesIn w a' n (fun i => f (lo + i)) := by
  refine ⟨by have := hb.1; omega, ?_⟩
  by_cases h0 : n = 0
  · exact .inl h0
  · rcases hb.2 with h1 | ⟨b, off, rfl, hk, hcell⟩
    · omega
    · refine .inr ⟨b, off + lo, ?_, hk, fun i hi => ?_⟩
      · rw [ha (by omega)]
        simp [Addr.add_mid]
      · rw [Nat.add_assoc]
        exact hcell (lo + i) (by omega)
theorem conv_in (f : Nat → BitVec 8) (a : Option Addr) (m c : Nat) (w : World) (h : BytesIn w a m f) :
    (convert 28 9 (.slice a m c)).run Tryd.prog w = .ok (.string (strOf f m)) w := by
  rcases h.2 with rfl | ⟨b, o, rfl, _, hc⟩
  · have h1 : Tryd.prog.underlying 28 = some (.slice 5) := by kernel_rfl
    have h2 : Tryd.prog.underlying 9 = some .string := by kernel_rfl
    have h3 : Tryd.prog.underlying 5 = some (.int .u8) := by kernel_rfl
    cases a with
    | none =>
      simp [convert, run_underlying h1, run_underlying h2, run_underlying h3, Sem.run_bind]
      rfl
    | some x =>
      have h := run_convert_bytes_back (P := Tryd.prog) w 28 9 5 x c [] (by kernel_rfl) (by kernel_rfl) (by kernel_rfl) (fun j hj => by simp at hj)
      exact h
  · exact conv_str f b o m c w hc
theorem run_from (a : Option Addr) (k m c : Nat) (hk : k ≤ m) : ∃ a', (∀ w : World, (Instr.sliceAt 28 (.slice a m c) (some (.int .i64 (k : Int))) none none).run Tryd.prog w = .ok (.slice a' (m - k) (c - k)) w) ∧ (c ≠ k → a' = a.map (·.add k)) ∧ (c = k → a' = a) := by
  refine ⟨if c = k then a else a.map (·.add k), fun w => ?_, fun h => by rw [if_neg h], fun h => by rw [if_pos h]⟩
  have hu : Tryd.prog.underlying 28 = some (.slice (Tryd.prog.elem 28)) := by kernel_rfl
  rw [run_sliceAt_slice (t := 28) (h := hu), run_slice_any (t := 28) (ht := hu)]
  have h0 : (0 : Int) ≤ (k : Int) := by omega
  have h1 : (k : Int) ≤ (m : Int) := by omega
  simp [Instr.sliceBounds, go_sem, h0, h1]
theorem getV_lt (f : Nat → BitVec 8) (len : Nat) : getV f len < 9223372036854775808 := by
  unfold getV
  split
  · have h := gk_lt f
    have h8 : 2 ^ gk f - 1 ≤ 7 := by
      have : 2 ^ gk f ≤ 2 ^ 3 := Nat.pow_le_pow_right (by decide) (by omega)
      omega
    rw [getN_nat f (2 ^ gk f - 1) (by omega)]
    have h1 := gN_lt f (2 ^ gk f - 1)
    have h2 : 256 ^ (2 ^ gk f - 1) ≤ 256 ^ 7 := Nat.pow_le_pow_right (by decide) h8
    have h3 : (256 : Nat) ^ 7 = 72057594037927936 := by decide
    omega
  · omega
/-- Where a reader stands: the place, the first error. -/
structure At where
  p : Nat
  e : Int
def ctG (len : Nat) (f : Nat → BitVec 8) (p : Nat) : Bool := isNum (fun i => f (p + i)) (len - p)
def rNum (F : Nat → BitVec 8) (len : Nat) (s : At) : Nat × At :=
  if s.e = 0 then (if ctG len F s.p = true then (getV (fun i => F (s.p + i)) (len - s.p), ⟨s.p + getK (fun i => F (s.p + i)) (len - s.p), 0⟩) else (0, ⟨s.p, 3⟩)) else (0, s)
def rNeed (ok : Bool) (s : At) : At := if s.e = 0 ∧ ok = false then ⟨s.p, 2⟩ else s
def rMost (F : Nat → BitVec 8) (len : Nat) (most : Int) (s : At) : Nat × At :=
  let r := rNum F len s
  let s2 := rNeed (decide ((r.1 : Int) ≤ most)) r.2
  (if s2.e = 0 then r.1 else 0, s2)
def rText (F : Nat → BitVec 8) (len n : Nat) (s : At) : ByteArray × At :=
  if s.e = 0 then (if n ≤ len - s.p then (strOf (fun i => F (s.p + i)) n, ⟨s.p + n, 0⟩) else (⟨#[]⟩, ⟨s.p, 3⟩)) else (⟨#[]⟩, s)
set_option maxHeartbeats 8000000 in
theorem number_any {w : World} {b : Nat} {a : Option Addr} {len cap : Nat} {f : Nat → BitVec 8} {p : Nat} {e : Int} (h : Rd w b a len cap f p e) :
    Calls Tryd.prog 35 #[.pointer (some ⟨b, 0, none⟩)] w (RdPost b a len cap f w (.int .i64 ((rNum f len ⟨p, e⟩).1 : Nat)) (rNum f len ⟨p, e⟩).2.p (rNum f len ⟨p, e⟩).2.e) := by
  by_cases he : e = 0
  rotate_left
  · rw [show rNum f len ⟨p, e⟩ = (0, ⟨p, e⟩) from by unfold rNum; rw [if_neg he]]
    obtain ⟨c0, c1, c2⟩ := cells3 h.row
    have H := Lib.hid h
    clear h
    go_enter Tryd.func35, Tryd.ntmps35
    go_wp2_with fail
    go_ret
    exact ⟨rfl, H.out, Chg.refl b w⟩
  subst he
  have hp := h.pl
  have hlc := h.lc
  have hcm := h.cm
  have hm : cap ≤ 9223372036854775807 := by unfold maxLen at hcm; omega
  obtain ⟨a', hcut, ha', _⟩ := run_from a p len cap hp
  have hB : BytesIn w a' (len - p) (fun i => f (p + i)) := bytesIn_cut h.inB (by omega) hlc ha'
  have G := Lib.hid (fun (w' : World) (hb : Below w.heap.size w w') => get_any (fun i => f (p + i)) a' (len - p) (cap - p) w' (by
    rcases hB.2 with h0 | ⟨k, o, e1, hk, hc⟩
    · exact ⟨hB.1, .inl h0⟩
    · exact ⟨hB.1, .inr ⟨k, o, e1, Nat.lt_of_lt_of_le hk hb.size, fun i hi => by rw [hb.cell (p := ⟨k, o + i, none⟩) hk]; exact hc i hi⟩⟩) (by omega) (by omega))
  obtain ⟨c0, c1, c2⟩ := cells3 h.row
  have CC := Lib.hid (fun (w' : World) (hb : Below w.heap.size w w') => cells3 (h.below hb).row)
  have RB := Lib.hid (fun (w' : World) (hb : Below w.heap.size w w') => h.below hb)
  have HCT := Lib.hid hcut
  have hlt := getV_lt (fun i => f (p + i)) (len - p)
  have hK8 : getK (fun i => f (p + i)) (len - p) ≤ len - p := by
    unfold getK
    split
    · rename_i h1
      unfold isNum at h1
      exact (of_decide_eq_true h1).2
    · omega
  cases hn : ctG len f p with
  | false =>
    rw [show rNum f len ⟨p, 0⟩ = (0, ⟨p, 3⟩) from by unfold rNum; rw [if_pos rfl, if_neg (by rw [hn]; simp)]]
    rw [show gotten (fun i => f (p + i)) (len - p) = .tuple #[.int .u64 0, .int .i64 0, .int .i64 3] from by
      unfold ctG at hn; unfold gotten getV getK getE; rw [hn]; rfl] at G
    clear h hB hcut hlt hK8 hn
    go_enter Tryd.func35, Tryd.ntmps35
    go_upto_region 3 with (fail)
    refine region_class1 16 (fun w' => Below w.heap.size w w') mixedOrders (by kernel_rfl) (Below.refl _ _).drew rfl ?_
    refine wpQuiet_take (by rfl) (fun K hK => ⟨.pointer (some ⟨b, 0, none⟩), fun w2' hw2 => ?_, hK _ ?_⟩)
    · clear hw2; go_simp
    clear hK K
    simp only [Act.put, List.setIfInBounds_toArray, List.set_cons_succ, List.set_cons_zero]
    refine wpQuiet_take (by rfl) (fun K hK => ⟨.pointer (some ⟨b, 0, none⟩), fun w2' hw2 => ?_, hK _ ?_⟩)
    · clear hw2; go_simp
    clear hK K
    simp only [Act.put, List.setIfInBounds_toArray, List.set_cons_succ, List.set_cons_zero]
    refine wpQuiet_take (by rfl) (fun K hK => ⟨.pointer (some ⟨b, 0, none⟩), fun w2' hw2 => ?_, hK _ ?_⟩)
    · clear hw2; go_simp
    clear hK K
    simp only [Act.put, List.setIfInBounds_toArray, List.set_cons_succ, List.set_cons_zero]
    refine wpQuiet_take (by rfl) (fun K hK => ⟨.slice a len cap, fun w2' hw2 => ?_, hK _ ?_⟩)
    · have h := (CC.out w2' hw2).1
      clear hw2; go_simp
    clear hK K
    simp only [Act.put, List.setIfInBounds_toArray, List.set_cons_succ, List.set_cons_zero]
    refine wpQuiet_take (by rfl) (fun K hK => ⟨.pointer (some ⟨b, 0, none⟩), fun w2' hw2 => ?_, hK _ ?_⟩)
    · clear hw2; go_simp
    clear hK K
    simp only [Act.put, List.setIfInBounds_toArray, List.set_cons_succ, List.set_cons_zero]
    refine wpQuiet_take (by rfl) (fun K hK => ⟨.pointer (some ⟨b, 0, none⟩), fun w2' hw2 => ?_, hK _ ?_⟩)
    · clear hw2; go_simp
    clear hK K
    simp only [Act.put, List.setIfInBounds_toArray, List.set_cons_succ, List.set_cons_zero]
    refine wpQuiet_take (by rfl) (fun K hK => ⟨.pointer (some ⟨b, 1, none⟩), fun w2' hw2 => ?_, hK _ ?_⟩)
    · clear hw2; go_simp
    clear hK K
    simp only [Act.put, List.setIfInBounds_toArray, List.set_cons_succ, List.set_cons_zero]
    refine wpQuiet_take (by rfl) (fun K hK => ⟨.int .i64 (p : Int), fun w2' hw2 => ?_, hK _ ?_⟩)
    · have h := (CC.out w2' hw2).2.1
      clear hw2; go_simp
    clear hK K
    simp only [Act.put, List.setIfInBounds_toArray, List.set_cons_succ, List.set_cons_zero]
    refine wpQuiet_take (by rfl) (fun K hK => ⟨.slice a' (len - p) (cap - p), fun w2' hw2 => ?_, hK _ ?_⟩)
    · have h := HCT.out w2'
      clear hw2; go_simp
    clear hK K
    simp only [Act.put, List.setIfInBounds_toArray, List.set_cons_succ, List.set_cons_zero]
    refine wpQuiet_take (by rfl) (fun K hK => ⟨.tuple #[.int .u64 0, .int .i64 0, .int .i64 3], fun w2' hw2 => ?_, hK _ ?_⟩)
    · go_simp
      go_at_call 48
      with_reducible refine (G.out w2' hw2).mono ?_
      rintro e w5 ⟨rfl, rfl⟩
      exact ⟨rfl, hw2⟩
    clear hK K
    simp only [Act.put, List.setIfInBounds_toArray, List.set_cons_succ, List.set_cons_zero]
    refine wpQuiet_take (by rfl) (fun K hK => ⟨.tuple #[.int .u64 0, .int .i64 0, .int .i64 3], fun w2' hw2 => ?_, hK _ ?_⟩)
    · clear hw2; go_simp
    clear hK K
    simp only [Act.put, List.setIfInBounds_toArray, List.set_cons_succ, List.set_cons_zero]
    refine wpQuiet_take (by rfl) (fun K hK => ⟨.int .u64 0, fun w2' hw2 => ?_, hK _ ?_⟩)
    · clear hw2; go_simp
    clear hK K
    simp only [Act.put, List.setIfInBounds_toArray, List.set_cons_succ, List.set_cons_zero]
    refine wpQuiet_take (by rfl) (fun K hK => ⟨.int .i64 0, fun w2' hw2 => ?_, hK _ ?_⟩)
    · clear hw2; go_simp
    clear hK K
    simp only [Act.put, List.setIfInBounds_toArray, List.set_cons_succ, List.set_cons_zero]
    refine wpQuiet_take (by rfl) (fun K hK => ⟨.int .i64 3, fun w2' hw2 => ?_, hK _ ?_⟩)
    · clear hw2; go_simp
    clear hK K
    simp only [Act.put, List.setIfInBounds_toArray, List.set_cons_succ, List.set_cons_zero]
    refine wpQuiet_take (by rfl) (fun K hK => ⟨.int .u64 0, fun w2' hw2 => ?_, hK _ ?_⟩)
    · clear hw2; go_simp
    clear hK K
    simp only [Act.put, List.setIfInBounds_toArray, List.set_cons_succ, List.set_cons_zero]
    refine wpQuiet_take (by rfl) (fun K hK => ⟨.int .i64 0, fun w2' hw2 => ?_, hK _ ?_⟩)
    · clear hw2; go_simp
    clear hK K
    simp only [Act.put, List.setIfInBounds_toArray, List.set_cons_succ, List.set_cons_zero]
    refine wpQuiet_take0 (fun w2 hw2 => ?_)
    have h2 := RB.out w2 hw2
    have fr : w2.frozen? ⟨b, 2, none⟩ = false := frozen_of_row _ _ _ _ _ h2.row
    have S2 := Lib.hid (h2.setE 3)
    have HW := Lib.hid hw2
    obtain ⟨c0, c1, c2⟩ := cells3 h2.row
    clear h2 hw2
    go_wp2_with fail
    go_ret
    exact ⟨rfl, S2.out.1, (Chg.of_below HW.out).trans S2.out.2⟩
  | true =>
    rw [show rNum f len ⟨p, 0⟩ = (getV (fun i => f (p + i)) (len - p), ⟨p + getK (fun i => f (p + i)) (len - p), 0⟩) from by unfold rNum; rw [if_pos rfl, if_pos hn]]
    rw [show gotten (fun i => f (p + i)) (len - p) = .tuple #[.int .u64 (getV (fun i => f (p + i)) (len - p) : Int), .int .i64 (getK (fun i => f (p + i)) (len - p) : Int), .int .i64 0] from by
      unfold ctG at hn; unfold gotten; rw [show getE (fun i => f (p + i)) (len - p) = 0 from by unfold getE; rw [if_pos hn]]] at G
    clear h hB hcut hn
    generalize getV (fun i => f (p + i)) (len - p) = V at *
    generalize getK (fun i => f (p + i)) (len - p) = KK at *
    have hV : wrap64 (V : Int) = (V : Int) := by unfold wrap64; omega
    dsimp only
    go_enter Tryd.func35, Tryd.ntmps35
    go_upto_region 3 with (fail)
    refine region_class1 16 (fun w' => Below w.heap.size w w') mixedOrders (by kernel_rfl) (Below.refl _ _).drew rfl ?_
    refine wpQuiet_take (by rfl) (fun K hK => ⟨.pointer (some ⟨b, 0, none⟩), fun w2' hw2 => ?_, hK _ ?_⟩)
    · clear hw2; go_simp
    clear hK K
    simp only [Act.put, List.setIfInBounds_toArray, List.set_cons_succ, List.set_cons_zero]
    refine wpQuiet_take (by rfl) (fun K hK => ⟨.pointer (some ⟨b, 0, none⟩), fun w2' hw2 => ?_, hK _ ?_⟩)
    · clear hw2; go_simp
    clear hK K
    simp only [Act.put, List.setIfInBounds_toArray, List.set_cons_succ, List.set_cons_zero]
    refine wpQuiet_take (by rfl) (fun K hK => ⟨.pointer (some ⟨b, 0, none⟩), fun w2' hw2 => ?_, hK _ ?_⟩)
    · clear hw2; go_simp
    clear hK K
    simp only [Act.put, List.setIfInBounds_toArray, List.set_cons_succ, List.set_cons_zero]
    refine wpQuiet_take (by rfl) (fun K hK => ⟨.slice a len cap, fun w2' hw2 => ?_, hK _ ?_⟩)
    · have h := (CC.out w2' hw2).1
      clear hw2; go_simp
    clear hK K
    simp only [Act.put, List.setIfInBounds_toArray, List.set_cons_succ, List.set_cons_zero]
    refine wpQuiet_take (by rfl) (fun K hK => ⟨.pointer (some ⟨b, 0, none⟩), fun w2' hw2 => ?_, hK _ ?_⟩)
    · clear hw2; go_simp
    clear hK K
    simp only [Act.put, List.setIfInBounds_toArray, List.set_cons_succ, List.set_cons_zero]
    refine wpQuiet_take (by rfl) (fun K hK => ⟨.pointer (some ⟨b, 0, none⟩), fun w2' hw2 => ?_, hK _ ?_⟩)
    · clear hw2; go_simp
    clear hK K
    simp only [Act.put, List.setIfInBounds_toArray, List.set_cons_succ, List.set_cons_zero]
    refine wpQuiet_take (by rfl) (fun K hK => ⟨.pointer (some ⟨b, 1, none⟩), fun w2' hw2 => ?_, hK _ ?_⟩)
    · clear hw2; go_simp
    clear hK K
    simp only [Act.put, List.setIfInBounds_toArray, List.set_cons_succ, List.set_cons_zero]
    refine wpQuiet_take (by rfl) (fun K hK => ⟨.int .i64 (p : Int), fun w2' hw2 => ?_, hK _ ?_⟩)
    · have h := (CC.out w2' hw2).2.1
      clear hw2; go_simp
    clear hK K
    simp only [Act.put, List.setIfInBounds_toArray, List.set_cons_succ, List.set_cons_zero]
    refine wpQuiet_take (by rfl) (fun K hK => ⟨.slice a' (len - p) (cap - p), fun w2' hw2 => ?_, hK _ ?_⟩)
    · have h := HCT.out w2'
      clear hw2; go_simp
    clear hK K
    simp only [Act.put, List.setIfInBounds_toArray, List.set_cons_succ, List.set_cons_zero]
    refine wpQuiet_take (by rfl) (fun K hK => ⟨.tuple #[.int .u64 (V : Int), .int .i64 (KK : Int), .int .i64 0], fun w2' hw2 => ?_, hK _ ?_⟩)
    · go_simp
      go_at_call 48
      with_reducible refine (G.out w2' hw2).mono ?_
      rintro e w5 ⟨rfl, rfl⟩
      exact ⟨rfl, hw2⟩
    clear hK K
    simp only [Act.put, List.setIfInBounds_toArray, List.set_cons_succ, List.set_cons_zero]
    refine wpQuiet_take (by rfl) (fun K hK => ⟨.tuple #[.int .u64 (V : Int), .int .i64 (KK : Int), .int .i64 0], fun w2' hw2 => ?_, hK _ ?_⟩)
    · clear hw2; go_simp
    clear hK K
    simp only [Act.put, List.setIfInBounds_toArray, List.set_cons_succ, List.set_cons_zero]
    refine wpQuiet_take (by rfl) (fun K hK => ⟨.int .u64 (V : Int), fun w2' hw2 => ?_, hK _ ?_⟩)
    · clear hw2; go_simp
    clear hK K
    simp only [Act.put, List.setIfInBounds_toArray, List.set_cons_succ, List.set_cons_zero]
    refine wpQuiet_take (by rfl) (fun K hK => ⟨.int .i64 (KK : Int), fun w2' hw2 => ?_, hK _ ?_⟩)
    · clear hw2; go_simp
    clear hK K
    simp only [Act.put, List.setIfInBounds_toArray, List.set_cons_succ, List.set_cons_zero]
    refine wpQuiet_take (by rfl) (fun K hK => ⟨.int .i64 0, fun w2' hw2 => ?_, hK _ ?_⟩)
    · clear hw2; go_simp
    clear hK K
    simp only [Act.put, List.setIfInBounds_toArray, List.set_cons_succ, List.set_cons_zero]
    refine wpQuiet_take (by rfl) (fun K hK => ⟨.int .u64 (V : Int), fun w2' hw2 => ?_, hK _ ?_⟩)
    · clear hw2; go_simp
    clear hK K
    simp only [Act.put, List.setIfInBounds_toArray, List.set_cons_succ, List.set_cons_zero]
    refine wpQuiet_take (by rfl) (fun K hK => ⟨.int .i64 (KK : Int), fun w2' hw2 => ?_, hK _ ?_⟩)
    · clear hw2; go_simp
    clear hK K
    simp only [Act.put, List.setIfInBounds_toArray, List.set_cons_succ, List.set_cons_zero]
    refine wpQuiet_take0 (fun w2 hw2 => ?_)
    have h2 := RB.out w2 hw2
    have fr : w2.frozen? ⟨b, 1, none⟩ = false := frozen_of_row _ _ _ _ _ h2.row
    have s2 := h2.setP (p + KK) (by omega)
    rw [show ((p + KK : Nat) : Int) = (p : Int) + (KK : Int) by omega] at s2
    have S2 := Lib.hid s2
    have HW := Lib.hid hw2
    obtain ⟨c0, c1, c2⟩ := cells3 h2.row
    clear h2 hw2 s2
    go_wp2_with fail
    go_ret
    exact ⟨rfl, S2.out.1, (Chg.of_below HW.out).trans S2.out.2⟩
set_option maxHeartbeats 4000000 in
theorem need_any {w : World} {b : Nat} {a : Option Addr} {len cap : Nat} {f : Nat → BitVec 8} {p : Nat} {e : Int} (h : Rd w b a len cap f p e) (ok : Bool) :
    Calls Tryd.prog 25 #[.pointer (some ⟨b, 0, none⟩), .bool ok] w (RdPost b a len cap f w (.tuple #[]) (rNeed ok ⟨p, e⟩).p (rNeed ok ⟨p, e⟩).e) := by
  obtain ⟨c0, c1, c2⟩ := cells3 h.row
  have fr : w.frozen? ⟨b, 2, none⟩ = false := frozen_of_row _ _ _ _ _ h.row
  have S2 := Lib.hid (h.setE 2)
  have H := Lib.hid h
  clear h
  by_cases he : e = 0
  · subst he
    cases ok with
    | true =>
      rw [show rNeed true ⟨p, 0⟩ = ⟨p, 0⟩ from rfl]
      go_enter Tryd.func25, Tryd.ntmps25
      go_wp2_with fail
      go_end0
      exact ⟨rfl, H.out, Chg.refl b w⟩
    | false =>
      rw [show rNeed false ⟨p, 0⟩ = ⟨p, 2⟩ from rfl]
      go_enter Tryd.func25, Tryd.ntmps25
      go_wp2_with fail
      go_end0
      exact ⟨rfl, S2.out.1, S2.out.2⟩
  · rw [show rNeed ok ⟨p, e⟩ = ⟨p, e⟩ from by unfold rNeed; rw [if_neg (fun h => he h.1)]]
    have e1 : (e == 0) = false := by simp [he]
    clear he
    go_enter Tryd.func25, Tryd.ntmps25
    go_wp2_with fail
    go_end0
    exact ⟨rfl, H.out, Chg.refl b w⟩
end Go.Proofs.YtcgbhcmgddgheabDoor
