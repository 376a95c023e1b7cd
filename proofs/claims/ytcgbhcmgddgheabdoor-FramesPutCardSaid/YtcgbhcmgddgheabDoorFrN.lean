/-
  FRAMES' READER: spanTo, acks.
-/
import Derived.Test.YtcgbhcmgddgheabDoorFrM
namespace Go.Proofs.YtcgbhcmgddgheabDoor
open Go Go.RowKit Go.BigFrame
set_option linter.unusedSimpArgs false
set_option linter.unusedVariables false
set_option maxRecDepth 100000
theorem rMost_le (F : Nat → BitVec 8) (len : Nat) (most : Int) (s : At) : ((rMost F len most s).1 : Int) ≤ most ∨ (rMost F len most s).1 = 0 := by
  unfold rMost
  dsimp only
  split
  · rename_i h
    by_cases hm : ((rNum F len s).1 : Int) ≤ most
    · exact .inl hm
    · unfold rNeed at h
      rw [decide_eq_false hm] at h
      by_cases he : (rNum F len s).2.e = 0
      · rw [if_pos ⟨he, rfl⟩] at h
        have h : (2 : Int) = 0 := h
        exact absurd h (by decide)
      · rw [if_neg (fun x => he x.1)] at h
        exact absurd h he
  · exact .inr rfl
theorem rMost_lt (F : Nat → BitVec 8) (len : Nat) (most : Int) (s : At) : (rMost F len most s).1 < 9223372036854775808 := by
  unfold rMost
  dsimp only
  split
  · unfold rNum
    split
    · split
      · exact getV_lt _ _
      · exact Nat.two_pow_pos 63
    · exact Nat.two_pow_pos 63
  · exact Nat.two_pow_pos 63
def rSpan (F : Nat → BitVec 8) (len : Nat) (tt : Int) (s : At) : (Int × Int) × At := ((tt - ((rMost F len tt s).1 : Int), tt), (rMost F len tt s).2)
set_option maxHeartbeats 4000000 in
theorem spanTo_any {w : World} {b : Nat} {a : Option Addr} {len cap : Nat} {f : Nat → BitVec 8} {p : Nat} {e : Int} (h : Rd w b a len cap f p e) (tt : Int) (h1 : -1000000 ≤ tt) (h2 : tt ≤ 9223372036854775807) :
    Calls Tryd.prog 49 #[.pointer (some ⟨b, 0, none⟩), .int .i64 tt] w (RdPost b a len cap f w (.agg #[.int .i64 (rSpan f len tt ⟨p, e⟩).1.1, .int .i64 tt]) (rSpan f len tt ⟨p, e⟩).2.p (rSpan f len tt ⟨p, e⟩).2.e) := by
  have hle := rMost_le f len tt ⟨p, e⟩
  have hlt := rMost_lt f len tt ⟨p, e⟩
  have bel := (Below.refl w.heap.size w).alloc (Nat.le_refl _) (.cells #[.int .i64 0, .int .i64 0] 50)
  have row := heap_alloc_last w (.cells #[.int .i64 0, .int .i64 0] 50)
  have am := atMost_any (h.below bel) tt
  have hbne : w.heap.size ≠ b := fun e => by have := lt_row h.row; omega
  unfold rSpan
  obtain ⟨R, hR⟩ : ∃ R, rMost f len tt ⟨p, e⟩ = R := ⟨_, rfl⟩
  rw [hR] at hle hlt am ⊢
  obtain ⟨n, p1, e1⟩ := R
  dsimp only at hle hlt am ⊢
  have AM := Lib.hid am
  have HNE := Lib.hid hbne
  have hw1 : tt - (n : Int) ≤ 9223372036854775807 := by omega
  have hw2 : -9223372036854775808 ≤ tt - (n : Int) := by omega
  have HH := Lib.hid h
  clear h hR am hbne hle
  go_enter Tryd.func49, Tryd.ntmps49
  go_upto_region 1 with (fail)
  generalize w.alloc _ = w1 at *
  have BEL := Lib.hid bel
  have ROW := Lib.hid row
  clear bel row
  go_wp2_with fail
  with_reducible refine AM.out.mono ?_
  rintro e' w2 ⟨rfl, h2', g2⟩
  have row2 := g2.row HNE.out ROW.out
  have R2 := Lib.hid row2
  have H2 := Lib.hid h2'
  have G2 := Lib.hid ((Chg.of_below BEL.out : Chg b w w1).trans g2)
  have z0 : w2.cell? ⟨w.heap.size, 0, none⟩ = some (.int .i64 0) := by rw [cell_of_row _ _ _ _ _ _ row2]; rfl
  have z1 : w2.cell? ⟨w.heap.size, 1, none⟩ = some (.int .i64 0) := by rw [cell_of_row _ _ _ _ _ _ row2]; rfl
  have f0 : w2.frozen? ⟨w.heap.size, 0, none⟩ = false := frozen_of_row _ _ _ _ _ row2
  have f1 : w2.frozen? ⟨w.heap.size, 1, none⟩ = false := frozen_of_row _ _ _ _ _ row2
  clear h2' g2 row2 AM
  go_wp2_with fail
  have rs := rowSet_two (c := .int .i64 (tt - (n : Int))) (d := .int .i64 tt) R2.out
  refine ret_row w.heap.size 50 50 #[.int .i64 (tt - (n : Int)), .int .i64 tt] rfl _ rfl rs.row Tryd.underlying50 rfl (by kernel_rfl) rfl ?_
  have c3 : Chg b w _ := ⟨(rs.below 0 (Nat.zero_le _)).os.trans G2.out.os, (rs.below 0 (Nat.zero_le _)).tape.trans G2.out.tape, (rs.below 0 (Nat.zero_le _)).output.trans G2.out.output, Nat.le_trans G2.out.size (Nat.le_of_eq rs.size.symm), fun k hk hb => (rs.other k (by omega)).trans (G2.out.block k hk hb)⟩
  have hr := H2.out
  exact ⟨rfl, ⟨(rs.other b (fun e => HNE.out e.symm)).trans hr.row, HH.out.inB.chg c3 HH.out.off, hr.lc, hr.cm, hr.pl, hr.off⟩, c3⟩
end Go.Proofs.YtcgbhcmgddgheabDoor
