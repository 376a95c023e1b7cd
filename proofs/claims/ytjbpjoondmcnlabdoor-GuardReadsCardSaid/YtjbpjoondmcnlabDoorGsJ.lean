/-
  GuardSeals: a pack as a law's parameter; two operations that make memory, in either order.
-/
import Derived.Test.YtjbpjoondmcnlabDoorGsH
import Derived.Test.YtjbpjoondmcnlabDoorGsI
namespace Go.Proofs.YtjbpjoondmcnlabDoor
open Go Go.RowKit Go.BigFrame
set_option linter.unusedSimpArgs false
set_option linter.unusedVariables false
set_option maxRecDepth 100000
/-- Two operations may come up, each makes memory. -/
theorem anyM_two {P : Program} {ops : Array Oper} {Q : Exit → Act → World → Prop} {md : Region.Mode} {i j : Nat} {o o' : Oper} {f : Nat} {l : Array Bool} {a : Act} {w : World} (hr : Region.ready md ops l = [i, j]) (hi : ops[i]? = some o) (hj : ops[j]? = some o')
    (hw : Region.wanted o (yielded ops a.tmps) = true) (hw' : Region.wanted o' (yielded ops a.tmps) = true)
    (h : ∀ w2, Ext w w2 → ∃ v w3, (execOp a.eval o).run P w2 = .ok (.value v) w3 ∧ Ext w2 w3 ∧ anyM P md ops Q f (l.setIfInBounds i true) (a.put o.dst v) w3)
    (h' : ∀ w2, Ext w w2 → ∃ v w3, (execOp a.eval o').run P w2 = .ok (.value v) w3 ∧ Ext w2 w3 ∧ anyM P md ops Q f (l.setIfInBounds j true) (a.put o'.dst v) w3) : anyM P md ops Q (f + 1) l a w := by
  refine ⟨fun h0 => (by rw [hr] at h0; cases h0), fun k hk w2 e => ?_⟩
  rw [hr] at hk
  rcases List.mem_cons.1 hk with rfl | hk
  · obtain ⟨v, w3, h1, h2, h3⟩ := h w2 e
    unfold wpOp
    simp only [hi]
    rw [if_pos hw]
    refine .inl ?_
    unfold Oper.wp
    rw [h1]
    exact ⟨h2, h3⟩
  · obtain rfl := List.mem_singleton.1 hk
    obtain ⟨v, w3, h1, h2, h3⟩ := h' w2 e
    unfold wpOp
    simp only [hj]
    rw [if_pos hw']
    refine .inl ?_
    unfold Oper.wp
    rw [h1]
    exact ⟨h2, h3⟩
theorem open_pack {H : Type} {enc : TypeId × Value → H} {w : World} {base : Nat} {v : Value} {d : DataW H} {p : List MemPlace} (hk : Value.okWide Tryd.prog w .any base 25 v)
    (h : DataW.Trod enc Tryd.prog w 0 (fun _ => true) true 25 v d p) :
    ∃ K I M Hd S N C E F, v = .agg (pkC K I M Hd S N C E F) ∧ 0 - 9223372036854775808 ≤ S ∧ S ≤ 9223372036854775807 := by
  obtain ⟨cs, rfl, hs⟩ := okWide_agg (by kernel_rfl) hk
  have hs9 : cs.size = 9 := hs.trans (by kernel_rfl)
  obtain ⟨fuel, hf⟩ := h
  obtain ⟨xs, n, _, hd, _, hl, hx⟩ := DataW.trod_struct Tryd.underlying25 hf
  match xs, hl with
  | [y0, y1, y2, y3, y4, y5, y6], _ =>
    match cs, hs9 with
    | ⟨[v0, v1, v2, v3, v4, v5, v6, v7, v8]⟩, _ =>
      have g0 : DataW.trod enc Tryd.prog w 0 (fun _ => true) true n 23 [v0, v1, v2] = some y0 := hx 0 _ rfl
      have g1 : DataW.trod enc Tryd.prog w 0 (fun _ => true) true n 9 [v3] = some y1 := hx 1 _ rfl
      have g2 : DataW.trod enc Tryd.prog w 0 (fun _ => true) true n 3 [v4] = some y2 := hx 2 _ rfl
      have g3 : DataW.trod enc Tryd.prog w 0 (fun _ => true) true n 3 [v5] = some y3 := hx 3 _ rfl
      have g4 : DataW.trod enc Tryd.prog w 0 (fun _ => true) true n 9 [v6] = some y4 := hx 4 _ rfl
      have g5 : DataW.trod enc Tryd.prog w 0 (fun _ => true) true n 3 [v7] = some y5 := hx 5 _ rfl
      have g6 : DataW.trod enc Tryd.prog w 0 (fun _ => true) true n 4 [v8] = some y6 := hx 6 _ rfl
      obtain ⟨xs2, n2, _, hd2, _, hl2, hx2⟩ := DataW.trod_struct Tryd.underlying23 g0
      match xs2, hl2 with
      | [z0, z1, z2], _ =>
        have k0 : DataW.trod enc Tryd.prog w 0 (fun _ => true) true n2 9 [v0] = some z0 := hx2 0 _ rfl
        have k1 : DataW.trod enc Tryd.prog w 0 (fun _ => true) true n2 9 [v1] = some z1 := hx2 1 _ rfl
        have k2 : DataW.trod enc Tryd.prog w 0 (fun _ => true) true n2 9 [v2] = some z2 := hx2 2 _ rfl
        have ui : Tryd.prog.underlying 3 = some (.int .i64) := by kernel_rfl
        have us : Tryd.prog.underlying 9 = some .string := by kernel_rfl
        obtain ⟨K, e0, _, _⟩ := DataW.trod_string us k0
        obtain ⟨I, e1, _, _⟩ := DataW.trod_string us k1
        obtain ⟨M, e2, _, _⟩ := DataW.trod_string us k2
        obtain ⟨Hd, e3, _, _⟩ := DataW.trod_string us g1
        obtain ⟨S, e4, q1, q2⟩ := DataW.trod_int ui g2
        obtain ⟨N, e5, _, _⟩ := DataW.trod_int ui g3
        obtain ⟨C, e6, _, _⟩ := DataW.trod_string us g4
        obtain ⟨E, e7, _, _⟩ := DataW.trod_int ui g5
        obtain ⟨F, e8, _⟩ := DataW.trod_bool (show Tryd.prog.underlying 4 = some .bool from by kernel_rfl) g6
        simp only [List.cons.injEq, and_true] at e0 e1 e2 e3 e4 e5 e6 e7 e8
        subst e0 e1 e2 e3 e4 e5 e6 e7 e8
        have hb : -9223372036854775808 ≤ S ∧ S ≤ 9223372036854775807 := by simpa [Lit.wf, IntKind.min, IntKind.max, IntKind.signed, IntKind.bits] using q2
        exact ⟨K, I, M, Hd, S, N, C, E, F, rfl, by omega, by omega⟩
end Go.Proofs.YtjbpjoondmcnlabDoor
