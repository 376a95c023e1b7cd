/-
  PACKET's READER: counted.
-/
import Derived.Test.YtcgbhcmgddgheaaDoorRdB
import Derived.Test.YtcgbhcmgddgheaaDoorCallRegion
namespace Go.Proofs.YtcgbhcmgddgheaaDoor
open Go Go.RowKit Go.BigFrame
set_option linter.unusedSimpArgs false
set_option linter.unusedVariables false
set_option maxRecDepth 100000
theorem getV_lt (f : Nat → BitVec 8) (len : Nat) : getV f len < 9223372036854775808 := by
  unfold getV
  split
  · have h := gk_lt f
    have h8 : 2 ^ gk f - 1 ≤ 7 := by
      have : 2 ^ gk f ≤ 2 ^ 3 := Nat.pow_le_pow_right (by decide) (by omega)
      omega
    rw [getN_nat f (2 ^ gk f - 1) (by omega)]
    have h1 := gN_lt f (2 ^ gk f - 1)
    have h2 : 256 ^ (2 ^ gk f - 1) ≤ 256 ^ 7 := Nat.pow_le_pow_right (by decide) h8
    have h3 : (256 : Nat) ^ 7 = 72057594037927936 := by decide
    omega
  · omega
/-- counted: the number, where it ends, the error. -/
def ctG (len : Nat) (f : Nat → BitVec 8) (p : Nat) : Bool := isNum (fun i => f (p + i)) (len - p)
def ctV (len : Nat) (f : Nat → BitVec 8) (p most : Nat) (e : Int) : Nat := if e = 0 ∧ ctG len f p = true then nmK (getV (fun i => f (p + i)) (len - p)) most 0 else 0
def ctP (len : Nat) (f : Nat → BitVec 8) (p : Nat) (e : Int) : Nat := if e = 0 ∧ ctG len f p = true then p + getK (fun i => f (p + i)) (len - p) else p
def ctE (len : Nat) (f : Nat → BitVec 8) (p most : Nat) (e : Int) : Int := if e = 0 then (if ctG len f p = true then amE (getV (fun i => f (p + i)) (len - p)) most 0 else 3) else e
set_option maxHeartbeats 8000000 in
theorem counted_any {w : World} {b : Nat} {a : Option Addr} {len cap : Nat} {f : Nat → BitVec 8} {p : Nat} {e : Int} (h : Rd w b a len cap f p e) (most : Nat) :
    Calls Tryd.prog 81 #[.pointer (some ⟨b, 0, none⟩), .int .i64 (most : Int)] w (RdPost b a len cap f w (.int .i64 (ctV len f p most e : Nat)) (ctP len f p e) (ctE len f p most e)) := by
  by_cases he : e = 0
  rotate_left
  · rw [show ctV len f p most e = 0 from by unfold ctV; rw [if_neg (by omega)], show ctP len f p e = p from by unfold ctP; rw [if_neg (by omega)], show ctE len f p most e = e from by unfold ctE; rw [if_neg he]]
    obtain ⟨c0, c1, c2⟩ := cells3 h.row
    have H := Lib.hid h
    clear h
    go_enter Tryd.func81, Tryd.ntmps81
    go_wp2_with fail
    go_ret
    exact ⟨rfl, H.out, Chg.refl b w⟩
  subst he
  have hp := h.pl
  have hlc := h.lc
  have hcm := h.cm
  have hm : cap ≤ 9223372036854775807 := by unfold maxLen at hcm; omega
  obtain ⟨a', hcut, ha', _⟩ := run_from a p len cap hp
  have hB : BytesIn w a' (len - p) (fun i => f (p + i)) := bytesIn_cut h.inB (by omega) hlc ha'
  have G := Lib.hid (fun (w' : World) (hb : Below w.heap.size w w') => get_any (fun i => f (p + i)) a' (len - p) (cap - p) w' (by
    rcases hB.2 with h0 | ⟨k, o, e1, hk, hc⟩
    · exact ⟨hB.1, .inl h0⟩
    · exact ⟨hB.1, .inr ⟨k, o, e1, Nat.lt_of_lt_of_le hk hb.size, fun i hi => by rw [hb.cell (p := ⟨k, o + i, none⟩) hk]; exact hc i hi⟩⟩) (by omega) (by omega))
  obtain ⟨c0, c1, c2⟩ := cells3 h.row
  have CC := Lib.hid (fun (w' : World) (hb : Below w.heap.size w w') => cells3 (h.below hb).row)
  have RB := Lib.hid (fun (w' : World) (hb : Below w.heap.size w w') => h.below hb)
  have HCT := Lib.hid hcut
  have hlt := getV_lt (fun i => f (p + i)) (len - p)
  have hK8 : getK (fun i => f (p + i)) (len - p) ≤ len - p := by
    unfold getK
    split
    · rename_i h1
      unfold isNum at h1
      exact (of_decide_eq_true h1).2
    · omega
  cases hn : ctG len f p with
  | false =>
    rw [show ctV len f p most 0 = 0 from by unfold ctV; rw [if_neg (by rw [hn]; simp)], show ctP len f p 0 = p from by unfold ctP; rw [if_neg (by rw [hn]; simp)], show ctE len f p most 0 = 3 from by unfold ctE; rw [if_pos rfl, if_neg (by rw [hn]; simp)]]
    rw [show gotten (fun i => f (p + i)) (len - p) = .tuple #[.int .u64 0, .int .i64 0, .int .i64 3] from by
      unfold ctG at hn; unfold gotten getV getK getE; rw [hn]; rfl] at G
    clear h hB hcut hlt hK8 hn
    go_enter Tryd.func81, Tryd.ntmps81
    go_upto_region 3 with (fail)
    refine region_class1 16 (fun w' => Below w.heap.size w w') mixedOrders (by kernel_rfl) (Below.refl _ _).drew rfl ?_
    refine wpQuiet_take (by rfl) (fun K hK => ⟨.pointer (some ⟨b, 0, none⟩), fun w2' hw2 => ?_, hK _ ?_⟩)
    · clear hw2; go_simp
    clear hK K
    simp only [Act.put, List.setIfInBounds_toArray, List.set_cons_succ, List.set_cons_zero]
    refine wpQuiet_take (by rfl) (fun K hK => ⟨.pointer (some ⟨b, 0, none⟩), fun w2' hw2 => ?_, hK _ ?_⟩)
    · clear hw2; go_simp
    clear hK K
    simp only [Act.put, List.setIfInBounds_toArray, List.set_cons_succ, List.set_cons_zero]
    refine wpQuiet_take (by rfl) (fun K hK => ⟨.pointer (some ⟨b, 0, none⟩), fun w2' hw2 => ?_, hK _ ?_⟩)
    · clear hw2; go_simp
    clear hK K
    simp only [Act.put, List.setIfInBounds_toArray, List.set_cons_succ, List.set_cons_zero]
    refine wpQuiet_take (by rfl) (fun K hK => ⟨.slice a len cap, fun w2' hw2 => ?_, hK _ ?_⟩)
    · have h := (CC.out w2' hw2).1
      clear hw2; go_simp
    clear hK K
    simp only [Act.put, List.setIfInBounds_toArray, List.set_cons_succ, List.set_cons_zero]
    refine wpQuiet_take (by rfl) (fun K hK => ⟨.pointer (some ⟨b, 0, none⟩), fun w2' hw2 => ?_, hK _ ?_⟩)
    · clear hw2; go_simp
    clear hK K
    simp only [Act.put, List.setIfInBounds_toArray, List.set_cons_succ, List.set_cons_zero]
    refine wpQuiet_take (by rfl) (fun K hK => ⟨.pointer (some ⟨b, 0, none⟩), fun w2' hw2 => ?_, hK _ ?_⟩)
    · clear hw2; go_simp
    clear hK K
    simp only [Act.put, List.setIfInBounds_toArray, List.set_cons_succ, List.set_cons_zero]
    refine wpQuiet_take (by rfl) (fun K hK => ⟨.pointer (some ⟨b, 1, none⟩), fun w2' hw2 => ?_, hK _ ?_⟩)
    · clear hw2; go_simp
    clear hK K
    simp only [Act.put, List.setIfInBounds_toArray, List.set_cons_succ, List.set_cons_zero]
    refine wpQuiet_take (by rfl) (fun K hK => ⟨.int .i64 (p : Int), fun w2' hw2 => ?_, hK _ ?_⟩)
    · have h := (CC.out w2' hw2).2.1
      clear hw2; go_simp
    clear hK K
    simp only [Act.put, List.setIfInBounds_toArray, List.set_cons_succ, List.set_cons_zero]
    refine wpQuiet_take (by rfl) (fun K hK => ⟨.slice a' (len - p) (cap - p), fun w2' hw2 => ?_, hK _ ?_⟩)
    · have h := HCT.out w2'
      clear hw2; go_simp
    clear hK K
    simp only [Act.put, List.setIfInBounds_toArray, List.set_cons_succ, List.set_cons_zero]
    refine wpQuiet_take (by rfl) (fun K hK => ⟨.tuple #[.int .u64 0, .int .i64 0, .int .i64 3], fun w2' hw2 => ?_, hK _ ?_⟩)
    · go_simp
      go_at_call 25
      with_reducible refine (G.out w2' hw2).mono ?_
      rintro e w5 ⟨rfl, rfl⟩
      exact ⟨rfl, hw2⟩
    clear hK K
    simp only [Act.put, List.setIfInBounds_toArray, List.set_cons_succ, List.set_cons_zero]
    refine wpQuiet_take (by rfl) (fun K hK => ⟨.tuple #[.int .u64 0, .int .i64 0, .int .i64 3], fun w2' hw2 => ?_, hK _ ?_⟩)
    · clear hw2; go_simp
    clear hK K
    simp only [Act.put, List.setIfInBounds_toArray, List.set_cons_succ, List.set_cons_zero]
    refine wpQuiet_take (by rfl) (fun K hK => ⟨.int .u64 0, fun w2' hw2 => ?_, hK _ ?_⟩)
    · clear hw2; go_simp
    clear hK K
    simp only [Act.put, List.setIfInBounds_toArray, List.set_cons_succ, List.set_cons_zero]
    refine wpQuiet_take (by rfl) (fun K hK => ⟨.int .i64 0, fun w2' hw2 => ?_, hK _ ?_⟩)
    · clear hw2; go_simp
    clear hK K
    simp only [Act.put, List.setIfInBounds_toArray, List.set_cons_succ, List.set_cons_zero]
    refine wpQuiet_take (by rfl) (fun K hK => ⟨.int .i64 3, fun w2' hw2 => ?_, hK _ ?_⟩)
    · clear hw2; go_simp
    clear hK K
    simp only [Act.put, List.setIfInBounds_toArray, List.set_cons_succ, List.set_cons_zero]
    refine wpQuiet_take (by rfl) (fun K hK => ⟨.int .u64 0, fun w2' hw2 => ?_, hK _ ?_⟩)
    · clear hw2; go_simp
    clear hK K
    simp only [Act.put, List.setIfInBounds_toArray, List.set_cons_succ, List.set_cons_zero]
    refine wpQuiet_take (by rfl) (fun K hK => ⟨.int .i64 0, fun w2' hw2 => ?_, hK _ ?_⟩)
    · clear hw2; go_simp
    clear hK K
    simp only [Act.put, List.setIfInBounds_toArray, List.set_cons_succ, List.set_cons_zero]
    refine wpQuiet_take0 (fun w2 hw2 => ?_)
    have h2 := RB.out w2 hw2
    have fr : w2.frozen? ⟨b, 2, none⟩ = false := frozen_of_row _ _ _ _ _ h2.row
    have S2 := Lib.hid (h2.setE 3)
    have HW := Lib.hid hw2
    obtain ⟨c0, c1, c2⟩ := cells3 h2.row
    clear h2 hw2
    go_wp2_with fail
    go_ret
    exact ⟨rfl, S2.out.1, (Chg.of_below HW.out).trans S2.out.2⟩
  | true =>
    rw [show ctV len f p most 0 = nmK (getV (fun i => f (p + i)) (len - p)) most 0 from by unfold ctV; rw [if_pos ⟨rfl, hn⟩], show ctP len f p 0 = p + getK (fun i => f (p + i)) (len - p) from by unfold ctP; rw [if_pos ⟨rfl, hn⟩], show ctE len f p most 0 = amE (getV (fun i => f (p + i)) (len - p)) most 0 from by unfold ctE; rw [if_pos rfl, if_pos hn]]
    rw [show gotten (fun i => f (p + i)) (len - p) = .tuple #[.int .u64 (getV (fun i => f (p + i)) (len - p) : Int), .int .i64 (getK (fun i => f (p + i)) (len - p) : Int), .int .i64 0] from by
      unfold ctG at hn; unfold gotten; rw [show getE (fun i => f (p + i)) (len - p) = 0 from by unfold getE; rw [if_pos hn]]] at G
    have A := Lib.hid (fun (w' : World) (h' : Rd w' b a len cap f (p + getK (fun i => f (p + i)) (len - p)) 0) => (show Calls Tryd.prog 83 #[.pointer (some ⟨b, 0, none⟩), .int .i64 (getV (fun i => f (p + i)) (len - p) : Nat), .int .i64 (most : Int)] w' (RdPost b a len cap f w' (.int .i64 (nmK (getV (fun i => f (p + i)) (len - p)) most 0 : Nat)) (p + getK (fun i => f (p + i)) (len - p)) (amE (getV (fun i => f (p + i)) (len - p)) most 0)) from by
      have h1 := atMost_any h' (getV (fun i => f (p + i)) (len - p) : Int) (most : Int)
      rw [nmK_eq] at h1
      exact h1))
    clear h hB hcut hn
    generalize getV (fun i => f (p + i)) (len - p) = V at *
    generalize getK (fun i => f (p + i)) (len - p) = KK at *
    generalize nmK V most 0 = R at *
    generalize amE (V : Int) (most : Int) 0 = E at *
    have hV : wrap64 (V : Int) = (V : Int) := by unfold wrap64; omega
    go_enter Tryd.func81, Tryd.ntmps81
    go_upto_region 3 with (fail)
    refine region_class1 16 (fun w' => Below w.heap.size w w') mixedOrders (by kernel_rfl) (Below.refl _ _).drew rfl ?_
    refine wpQuiet_take (by rfl) (fun K hK => ⟨.pointer (some ⟨b, 0, none⟩), fun w2' hw2 => ?_, hK _ ?_⟩)
    · clear hw2; go_simp
    clear hK K
    simp only [Act.put, List.setIfInBounds_toArray, List.set_cons_succ, List.set_cons_zero]
    refine wpQuiet_take (by rfl) (fun K hK => ⟨.pointer (some ⟨b, 0, none⟩), fun w2' hw2 => ?_, hK _ ?_⟩)
    · clear hw2; go_simp
    clear hK K
    simp only [Act.put, List.setIfInBounds_toArray, List.set_cons_succ, List.set_cons_zero]
    refine wpQuiet_take (by rfl) (fun K hK => ⟨.pointer (some ⟨b, 0, none⟩), fun w2' hw2 => ?_, hK _ ?_⟩)
    · clear hw2; go_simp
    clear hK K
    simp only [Act.put, List.setIfInBounds_toArray, List.set_cons_succ, List.set_cons_zero]
    refine wpQuiet_take (by rfl) (fun K hK => ⟨.slice a len cap, fun w2' hw2 => ?_, hK _ ?_⟩)
    · have h := (CC.out w2' hw2).1
      clear hw2; go_simp
    clear hK K
    simp only [Act.put, List.setIfInBounds_toArray, List.set_cons_succ, List.set_cons_zero]
    refine wpQuiet_take (by rfl) (fun K hK => ⟨.pointer (some ⟨b, 0, none⟩), fun w2' hw2 => ?_, hK _ ?_⟩)
    · clear hw2; go_simp
    clear hK K
    simp only [Act.put, List.setIfInBounds_toArray, List.set_cons_succ, List.set_cons_zero]
    refine wpQuiet_take (by rfl) (fun K hK => ⟨.pointer (some ⟨b, 0, none⟩), fun w2' hw2 => ?_, hK _ ?_⟩)
    · clear hw2; go_simp
    clear hK K
    simp only [Act.put, List.setIfInBounds_toArray, List.set_cons_succ, List.set_cons_zero]
    refine wpQuiet_take (by rfl) (fun K hK => ⟨.pointer (some ⟨b, 1, none⟩), fun w2' hw2 => ?_, hK _ ?_⟩)
    · clear hw2; go_simp
    clear hK K
    simp only [Act.put, List.setIfInBounds_toArray, List.set_cons_succ, List.set_cons_zero]
    refine wpQuiet_take (by rfl) (fun K hK => ⟨.int .i64 (p : Int), fun w2' hw2 => ?_, hK _ ?_⟩)
    · have h := (CC.out w2' hw2).2.1
      clear hw2; go_simp
    clear hK K
    simp only [Act.put, List.setIfInBounds_toArray, List.set_cons_succ, List.set_cons_zero]
    refine wpQuiet_take (by rfl) (fun K hK => ⟨.slice a' (len - p) (cap - p), fun w2' hw2 => ?_, hK _ ?_⟩)
    · have h := HCT.out w2'
      clear hw2; go_simp
    clear hK K
    simp only [Act.put, List.setIfInBounds_toArray, List.set_cons_succ, List.set_cons_zero]
    refine wpQuiet_take (by rfl) (fun K hK => ⟨.tuple #[.int .u64 (V : Int), .int .i64 (KK : Int), .int .i64 0], fun w2' hw2 => ?_, hK _ ?_⟩)
    · go_simp
      go_at_call 25
      with_reducible refine (G.out w2' hw2).mono ?_
      rintro e w5 ⟨rfl, rfl⟩
      exact ⟨rfl, hw2⟩
    clear hK K
    simp only [Act.put, List.setIfInBounds_toArray, List.set_cons_succ, List.set_cons_zero]
    refine wpQuiet_take (by rfl) (fun K hK => ⟨.tuple #[.int .u64 (V : Int), .int .i64 (KK : Int), .int .i64 0], fun w2' hw2 => ?_, hK _ ?_⟩)
    · clear hw2; go_simp
    clear hK K
    simp only [Act.put, List.setIfInBounds_toArray, List.set_cons_succ, List.set_cons_zero]
    refine wpQuiet_take (by rfl) (fun K hK => ⟨.int .u64 (V : Int), fun w2' hw2 => ?_, hK _ ?_⟩)
    · clear hw2; go_simp
    clear hK K
    simp only [Act.put, List.setIfInBounds_toArray, List.set_cons_succ, List.set_cons_zero]
    refine wpQuiet_take (by rfl) (fun K hK => ⟨.int .i64 (KK : Int), fun w2' hw2 => ?_, hK _ ?_⟩)
    · clear hw2; go_simp
    clear hK K
    simp only [Act.put, List.setIfInBounds_toArray, List.set_cons_succ, List.set_cons_zero]
    refine wpQuiet_take (by rfl) (fun K hK => ⟨.int .i64 0, fun w2' hw2 => ?_, hK _ ?_⟩)
    · clear hw2; go_simp
    clear hK K
    simp only [Act.put, List.setIfInBounds_toArray, List.set_cons_succ, List.set_cons_zero]
    refine wpQuiet_take (by rfl) (fun K hK => ⟨.int .u64 (V : Int), fun w2' hw2 => ?_, hK _ ?_⟩)
    · clear hw2; go_simp
    clear hK K
    simp only [Act.put, List.setIfInBounds_toArray, List.set_cons_succ, List.set_cons_zero]
    refine wpQuiet_take (by rfl) (fun K hK => ⟨.int .i64 (KK : Int), fun w2' hw2 => ?_, hK _ ?_⟩)
    · clear hw2; go_simp
    clear hK K
    simp only [Act.put, List.setIfInBounds_toArray, List.set_cons_succ, List.set_cons_zero]
    refine wpQuiet_take0 (fun w2 hw2 => ?_)
    have h2 := RB.out w2 hw2
    have fr : w2.frozen? ⟨b, 1, none⟩ = false := frozen_of_row _ _ _ _ _ h2.row
    have s2 := h2.setP (p + KK) (by omega)
    rw [show ((p + KK : Nat) : Int) = (p : Int) + (KK : Int) by omega] at s2
    have S2 := Lib.hid s2
    have HW := Lib.hid hw2
    obtain ⟨c0, c1, c2⟩ := cells3 h2.row
    have hpk : (p : Int) + (KK : Int) ≤ 9223372036854775807 := by omega
    clear h2 hw2 s2
    go_wp2_with fail
    with_reducible refine (A.out _ S2.out.1).mono ?_
    rintro x w3 ⟨rfl, h3, g3⟩
    have H3 := Lib.hid h3
    have G3 := Lib.hid (((Chg.of_below (b := b) HW.out).trans S2.out.2).trans g3)
    clear h3 g3 c0 c1 c2
    go_wp2_with fail
    go_ret
    exact ⟨rfl, H3.out, G3.out⟩
end Go.Proofs.YtcgbhcmgddgheaaDoor
