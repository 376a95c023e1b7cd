/-
  A FRAME THAT CAME IN: its numbers and texts.
-/
import Derived.Test.YtcgbhcmgddgheabDoorFrT
import Derived.Test.YtcgbhcmgddgheabDoorOpen
import Derived.Deep.Slices
import Derived.SizedLaws
namespace Go.Proofs.YtcgbhcmgddgheabDoor
open Go Go.RowKit Go.BigFrame Go.ChangeShapes Go.WideShapes
set_option linter.unusedSimpArgs false
set_option linter.unusedVariables false
set_option maxRecDepth 100000
theorem open_frame {H : Type} {enc : TypeId × Value → H} {w : World} {base : Nat} {v : Value} {d : DataW H} {p : List MemPlace} (hk : Value.okWide Tryd.prog w .any base 24 v)
    (h : DataW.Trod enc Tryd.prog w 0 (fun _ => true) true 24 v d p) :
    ∃ K S O N C F D X u, v = .agg (frC K S O N C F D X u) ∧ D.size ≤ maxLen ∧ X.size ≤ maxLen := by
  obtain ⟨cs, rfl, hs⟩ := okWide_agg (by kernel_rfl) hk
  have hs9 : cs.size = 9 := hs.trans (by kernel_rfl)
  obtain ⟨fuel, hf⟩ := h
  obtain ⟨xs, n, _, hd, _, hl, hx⟩ := DataW.trod_struct Tryd.underlying24 hf
  match xs, hl with
  | [y0, y1, y2, y3, y4, y5, y6, y7, y8], _ =>
    match cs, hs9 with
    | ⟨[v0, v1, v2, v3, v4, v5, v6, v7, v8]⟩, _ =>
      have g0 : DataW.trod enc Tryd.prog w 0 (fun _ => true) true n 3 [v0] = some y0 := hx 0 _ rfl
      have g1 : DataW.trod enc Tryd.prog w 0 (fun _ => true) true n 3 [v1] = some y1 := hx 1 _ rfl
      have g2 : DataW.trod enc Tryd.prog w 0 (fun _ => true) true n 3 [v2] = some y2 := hx 2 _ rfl
      have g3 : DataW.trod enc Tryd.prog w 0 (fun _ => true) true n 3 [v3] = some y3 := hx 3 _ rfl
      have g4 : DataW.trod enc Tryd.prog w 0 (fun _ => true) true n 3 [v4] = some y4 := hx 4 _ rfl
      have g5 : DataW.trod enc Tryd.prog w 0 (fun _ => true) true n 4 [v5] = some y5 := hx 5 _ rfl
      have g6 : DataW.trod enc Tryd.prog w 0 (fun _ => true) true n 9 [v6] = some y6 := hx 6 _ rfl
      have g7 : DataW.trod enc Tryd.prog w 0 (fun _ => true) true n 9 [v7] = some y7 := hx 7 _ rfl
      have ui : Tryd.prog.underlying 3 = some (.int .i64) := by kernel_rfl
      have us : Tryd.prog.underlying 9 = some .string := by kernel_rfl
      obtain ⟨K, e0, _, _⟩ := DataW.trod_int ui g0
      obtain ⟨S, e1, _, _⟩ := DataW.trod_int ui g1
      obtain ⟨O, e2, _, _⟩ := DataW.trod_int ui g2
      obtain ⟨N, e3, _, _⟩ := DataW.trod_int ui g3
      obtain ⟨C, e4, _, _⟩ := DataW.trod_int ui g4
      obtain ⟨F, e5, _⟩ := DataW.trod_bool (show Tryd.prog.underlying 4 = some .bool from by kernel_rfl) g5
      obtain ⟨D, e6, _, hD⟩ := DataW.trod_string us g6
      obtain ⟨X, e7, _, hX⟩ := DataW.trod_string us g7
      injection e0 with e0; injection e1 with e1; injection e2 with e2; injection e3 with e3; injection e4 with e4; injection e5 with e5; injection e6 with e6; injection e7 with e7
      subst e0 e1 e2 e3 e4 e5 e6 e7
      exact ⟨K, S, O, N, C, F, D, X, v8, rfl, hD, hX⟩
end Go.Proofs.YtcgbhcmgddgheabDoor
