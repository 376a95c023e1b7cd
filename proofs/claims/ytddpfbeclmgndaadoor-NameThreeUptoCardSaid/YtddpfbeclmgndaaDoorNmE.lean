/-
  name: strings.SplitSeq's iterator at a dot.
-/
import Derived.Test.YtddpfbeclmgndaaDoorNmD
namespace Go.Proofs.YtddpfbeclmgndaaDoor
open Go Go.RowKit Go.Shelf
set_option linter.unusedSimpArgs false
set_option linter.unusedVariables false
attribute [local go_sem] Oper.semAt_some
/-- The iterator's three boxes: the dot, the rest of the text, nought. -/
structure SpAt (b1 b2 b3 : Nat) (L : List (BitVec 8)) (W : World) : Prop where
  c1 : W.cell? ⟨b1, 0, none⟩ = some (.string ⟨#[46]⟩)
  c2 : W.cell? ⟨b2, 0, none⟩ = some (.string (sL L))
  c3 : W.cell? ⟨b3, 0, none⟩ = some (.int .i64 0)
  f2 : W.frozen? ⟨b2, 0, none⟩ = false
theorem SpAt.later {b1 b2 b3 n₀ : Nat} {L : List (BitVec 8)} {W W' : World} (h : SpAt b1 b2 b3 L W) (hb : Below n₀ W W') (h1 : b1 < n₀) (h2 : b2 < n₀) (h3 : b3 < n₀) : SpAt b1 b2 b3 L W' :=
  ⟨(hb.cell (p := ⟨b1, 0, none⟩) h1).trans h.c1, (hb.cell (p := ⟨b2, 0, none⟩) h2).trans h.c2, (hb.cell (p := ⟨b3, 0, none⟩) h3).trans h.c3, (hb.frozen (p := ⟨b2, 0, none⟩) h2).trans h.f2⟩
theorem SpAt.turn {b1 b2 b3 : Nat} {L : List (BitVec 8)} {W : World} (h : SpAt b1 b2 b3 L W) (M : List (BitVec 8)) (h12 : b1 ≠ b2) (h32 : b3 ≠ b2) : SpAt b1 b2 b3 M (W.setCell ⟨b2, 0, none⟩ (.string (sL M))) :=
  ⟨by rw [World.cell?_setCell_other _ _ _ _ (by simp [h12])]; exact h.c1, World.cell?_setCell_same' _ _ _ (by rw [h.c2]; rfl), by rw [World.cell?_setCell_other _ _ _ _ (by simp [h32])]; exact h.c3, by rw [World.frozen?_setCell]; exact h.f2⟩
/-- How long the rest is. -/
def szAt (b : Nat) (W : World) : Nat := match W.cell? ⟨b, 0, none⟩ with | some (.string s) => s.size | _ => 0
theorem SpAt.sz {b1 b2 b3 : Nat} {L : List (BitVec 8)} {W : World} (h : SpAt b1 b2 b3 L W) : szAt b2 W = L.length := by unfold szAt; rw [h.c2]; exact sL_size L
set_option maxHeartbeats 4000000 in
set_option maxRecDepth 100000 in
theorem split_mine (b1 b2 b3 n₀ : Nat) (h1 : b1 < n₀) (h2 : b2 < n₀) (h3 : b3 < n₀) (h12 : b1 ≠ b2) (h32 : b3 ≠ b2) (L : List (BitVec 8)) (hL : L.length ≤ 1000) :
    SeqMine Fence.wide 3 Tryd.prog 61 #[.pointer (some ⟨b1, 0, none⟩), .pointer (some ⟨b2, 0, none⟩), .pointer (some ⟨b3, 0, none⟩)] (fun x => #[.string (sL x)]) (Below n₀) b2 (SpAt b1 b2 b3 L) (splitDot L) := fun l J Jx W hS hT hY h0 => by
  refine callsIn_of_wp Tryd.func61 rfl trivial ?_ rfl
  simp only [Tryd.ntmps61, List.size_toArray, List.length_cons, List.length_nil, Nat.reduceAdd, Nat.reduceSub, Array.replicate_succ, Array.replicate_zero, List.push_toArray, List.append_toArray, List.nil_append, List.cons_append]
  have c1 := hS.c1
  gi_wp2
  gi_loopw [] (fun wr => ∃ (pre : List (List (BitVec 8))) (rest : List (BitVec 8)), Hid (splitDot L = pre ++ splitDot rest) ∧ rest.length ≤ 1000 ∧ Hid (J pre wr) ∧ Hid (SpAt b1 b2 b3 rest wr)) (fun wr => szAt b2 wr)
  case atStart => exact ⟨[], L, rfl, hL, h0, hS⟩
  case round =>
    obtain ⟨pre, rest, hx, hl, hJ, hA⟩ := hrel
    have c1 := hA.out.c1
    have c2 := hA.out.c2
    have c3 := hA.out.c3
    have f2 := hA.out.f2
    have HI := Lib.hid (sindex_any rest)
    cases e : dotAt rest with
    | none =>
      have hI : dotI rest = -1 := by unfold dotI; rw [e]
      rw [hI] at HI
      have hs : splitDot L = pre ++ [rest] := by rw [hx.out, dotAt_none e]
      obtain ⟨fn, tmps, assign, body, hy, hR⟩ := hY pre rest wr hJ.out ⟨[], by rw [hs, List.append_nil]⟩
      have HX := Lib.hid hs
      clear hs hx hI e
      gi_wp2_with (refine ⟨trivial, ?_⟩; gi_at_call 56; refine (callsIn_wide.2 (HI.out _)).mono ?_; rintro e w' ⟨rfl, rfl⟩)
      refine hR.mono ?_
      rintro e W3 (⟨rfl, hJ3, hk3⟩ | ⟨rfl, hJx3⟩)
      · gi_wp2
        go_end0
        exact ⟨⟨_, rfl⟩, .inl (by rw [HX.out]; exact hJ3)⟩
      · gi_wp2
        go_end0
        exact ⟨⟨_, rfl⟩, .inr ⟨pre ++ [rest], ⟨[], by rw [HX.out, List.append_nil]⟩, hJx3⟩⟩
    | some k =>
      have hI : dotI rest = (k : Int) := by unfold dotI; rw [e]
      rw [hI] at HI
      have hk := dotAt_lt e
      have hs : splitDot L = pre ++ rest.take k :: splitDot (rest.drop (k + 1)) := by rw [hx.out, dotAt_some e]
      obtain ⟨fn, tmps, assign, body, hy, hR⟩ := hY pre (rest.take k) wr hJ.out ⟨splitDot (rest.drop (k + 1)), by rw [hs, List.append_assoc]; rfl⟩
      have HX := Lib.hid hs
      have i1 : ∀ w' : World, (Instr.sliceAt 9 (.string (sL rest)) none (some (.int .i64 (k : Int))) none).run Tryd.prog w' = .ok (.string (sL (rest.take k))) w' := run_upto_s rest k _ rfl (by omega)
      have i2 : ∀ w' : World, (Instr.sliceAt 9 (.string (sL rest)) (some (.int .i64 ((k : Int) + 1))) none none).run Tryd.prog w' = .ok (.string (sL (rest.drop (k + 1)))) w' := run_from_s rest (k + 1) _ (by omega) (by omega)
      have hp : ¬ (k : Int) < 0 := by omega
      have hlen : (rest.drop (k + 1)).length < rest.length := by rw [List.length_drop]; omega
      have HL := Lib.hid hlen
      have hz := hA.out.sz
      clear hs hx hI e hlen
      generalize sL (rest.take k) = T at *
      have hA' := hA
      generalize hU : sL (rest.drop (k + 1)) = U at *
      generalize hS' : sL rest = S at *
      gi_wp2_with (refine ⟨trivial, ?_⟩; gi_at_call 56; refine (callsIn_wide.2 (HI.out _)).mono ?_; rintro e w' ⟨rfl, rfl⟩)
      refine hR.mono ?_
      rintro e W3 (⟨rfl, hJ3, hk3⟩ | ⟨rfl, hJx3⟩)
      · have A3 := Lib.hid (hA.out.later hk3 h1 h2 h3)
        have A4 := Lib.hid (A3.out.turn (rest.drop (k + 1)) h12 h32)
        have J4 := Lib.hid (hT _ _ _ hJ3 ⟨.string (sL (rest.drop (k + 1))), rfl⟩)
        rw [hU] at A4 J4
        clear c1 c2 c3 f2
        have c1 := A3.out.c1
        have c2 := A3.out.c2
        have c3 := A3.out.c3
        have f2 := A3.out.f2
        rw [hS'] at c2
        clear hJ3 hk3
        gi_wp2
        go_roundw
        case rel => exact ⟨pre ++ [rest.take k], rest.drop (k + 1), by rw [HX.out, List.append_assoc]; rfl, by have := HL.out; omega, J4.out, A4.out⟩
        case measure => rw [A4.out.sz, hz]; exact HL.out
      · gi_wp2
        refine bodyPost_ret (results_none rfl _ _ _) rfl ?_
        exact ⟨⟨_, rfl⟩, .inr ⟨pre ++ [rest.take k], ⟨splitDot (rest.drop (k + 1)), by rw [HX.out, List.append_assoc]; rfl⟩, hJx3⟩⟩
end Go.Proofs.YtddpfbeclmgndaaDoor
