/-
  A HEADER THAT CAME IN.
-/
import Derived.Test.YtiffpkjafnjpfaaDoorPackN
import Derived.Test.YtiffpkjafnjpfaaDoorOpen
import Derived.Deep.Slices
import Derived.SizedLaws
namespace Go.Proofs.YtiffpkjafnjpfaaDoor
open Go Go.RowKit Go.ChangeShapes Go.WideShapes
set_option linter.unusedSimpArgs false
set_option linter.unusedVariables false
set_option maxRecDepth 100000
theorem open_ints_at {H : Type} {enc : TypeId × Value → H} {w : World} {fuel : Nat} {c : Value} {y : DataW H × List MemPlace} (h : DataW.trod enc Tryd.prog w 0 (fun _ => true) true fuel 56 [c] = some y) :
    ∃ a cap G, c = .slice a G.length cap ∧ IntsIn w (.slice a G.length cap) G ∧ ∀ R : Nat, (∀ n ∈ DataW.weights Tryd.prog 56 y.1, n ≤ R) → G.length * 8 ≤ R := by
  rcases open_ints Tryd.underlying56 Tryd.underlying3 (by kernel_rfl) h with ⟨hcs, hy⟩ | ⟨x, l, cp, zs, hcs, _, hl, hm, hz, hy, hcell, hwz⟩
  · obtain rfl : c = .slice none 0 0 := by simpa using hcs
    exact ⟨none, 0, [], rfl, ⟨none, 0, rfl, ⟨Nat.le_refl _, Nat.zero_le _⟩, fun i hi => by simp at hi⟩, fun _ _ => Nat.zero_le _⟩
  · obtain rfl : c = .slice (some x) l cp := by simpa using hcs
    have hz' : zs.length = cp := by simpa using hz
    have hlen : (zs.take l).length = l := by rw [List.length_take]; omega
    refine ⟨some x, cp, zs.take l, by rw [hlen], ⟨some x, cp, rfl, ⟨by rw [hlen]; exact hl, hm⟩, fun i hi => ?_⟩, fun R hR => ?_⟩
    · rw [hlen] at hi
      obtain ⟨b, off, spot⟩ := x
      have hc := hcell i (by omega)
      have hspot : spot = none := by simpa [Addr.add] using World.cell?_spot (hcell 0 (by omega))
      subst hspot
      rw [Go.WideShapes.add_plain] at hc
      refine ⟨b, off, rfl, ?_, ?_⟩
      · have := World.block_lt_of_cell? w _ hc
        simpa using this
      · rw [hc]
        congr 2
        simp [List.getElem_take, List.getD_eq_getElem?_getD, List.getElem?_eq_getElem (show i < zs.length by omega)]
    · subst hy
      have h1 := hR (((lits .i64 (zs.take l)).length + (lits .i64 (zs.drop l)).length) * Tryd.prog.bytesOf 3) (by
        rw [DataW.weights, Tryd.underlying56]
        exact List.mem_cons_self)
      rw [show Tryd.prog.bytesOf 3 = 8 by kernel_rfl] at h1
      simp only [lits, List.length_map, List.length_take, List.length_drop] at h1
      rw [hlen]
      omega
theorem open_header {H : Type} {enc : TypeId × Value → H} {w : World} {base : Nat} {v : Value} {d : DataW H} {p : List MemPlace} (hk : Value.okWide Tryd.prog w .any base 63 v)
    (h : DataW.Trod enc Tryd.prog w 0 (fun _ => true) true 63 v d p) (hz : ∀ n ∈ DataW.weights Tryd.prog 63 d, n ≤ reachBytes) :
    ∃ k vv l N z D S tf nt ph a c G, v = .agg (hdC k vv D S (strOf tf nt) l N z ph (.slice a G.length c)) ∧ IntsIn w (.slice a G.length c) G ∧ G.length ≤ 20000000000000 := by
  obtain ⟨cs, rfl, hs⟩ := okWide_agg (by kernel_rfl) hk
  have hs10 : cs.size = 10 := hs.trans (by kernel_rfl)
  obtain ⟨fuel, hf⟩ := h
  obtain ⟨xs, n, _, hd, _, hl, hx⟩ := DataW.trod_struct Tryd.underlying63 hf
  match xs, hl with
  | [y0, y1, y2, y3, y4, y5, y6, y7, y8, y9], _ =>
    obtain rfl : d = .agg [y0.1, y1.1, y2.1, y3.1, y4.1, y5.1, y6.1, y7.1, y8.1, y9.1] := by
      have := congrArg Prod.fst hd
      simpa using this
    have hw : ∀ n ∈ DataW.weights Tryd.prog 56 y9.1, n ≤ reachBytes := fun n hn => hz n (by
      rw [DataW.weights, Tryd.underlying63]
      exact DataW.weights_mem_each (j := 9) (t := 56) (d := y9.1) rfl rfl n hn)
    match cs, hs10 with
    | ⟨[v0, v1, v2, v3, v4, v5, v6, v7, v8, v9]⟩, _ =>
      have g0 : DataW.trod enc Tryd.prog w 0 (fun _ => true) true n 3 [v0] = some y0 := hx 0 _ rfl
      have g1 : DataW.trod enc Tryd.prog w 0 (fun _ => true) true n 3 [v1] = some y1 := hx 1 _ rfl
      have g2 : DataW.trod enc Tryd.prog w 0 (fun _ => true) true n 9 [v2] = some y2 := hx 2 _ rfl
      have g3 : DataW.trod enc Tryd.prog w 0 (fun _ => true) true n 9 [v3] = some y3 := hx 3 _ rfl
      have g4 : DataW.trod enc Tryd.prog w 0 (fun _ => true) true n 9 [v4] = some y4 := hx 4 _ rfl
      have g5 : DataW.trod enc Tryd.prog w 0 (fun _ => true) true n 3 [v5] = some y5 := hx 5 _ rfl
      have g6 : DataW.trod enc Tryd.prog w 0 (fun _ => true) true n 3 [v6] = some y6 := hx 6 _ rfl
      have g7 : DataW.trod enc Tryd.prog w 0 (fun _ => true) true n 3 [v7] = some y7 := hx 7 _ rfl
      have g8 : DataW.trod enc Tryd.prog w 0 (fun _ => true) true n 4 [v8] = some y8 := hx 8 _ rfl
      have g9 : DataW.trod enc Tryd.prog w 0 (fun _ => true) true n 56 [v9] = some y9 := hx 9 _ rfl
      have ui : Tryd.prog.underlying 3 = some (.int .i64) := by kernel_rfl
      have us : Tryd.prog.underlying 9 = some .string := by kernel_rfl
      obtain ⟨k, e0, _, _⟩ := DataW.trod_int ui g0
      obtain ⟨vv, e1, _, _⟩ := DataW.trod_int ui g1
      obtain ⟨D, e2, _, _⟩ := DataW.trod_string us g2
      obtain ⟨S, e3, _, _⟩ := DataW.trod_string us g3
      obtain ⟨T, e4, _, _⟩ := DataW.trod_string us g4
      obtain ⟨l, e5, _, _⟩ := DataW.trod_int ui g5
      obtain ⟨N, e6, _, _⟩ := DataW.trod_int ui g6
      obtain ⟨z, e7, _, _⟩ := DataW.trod_int ui g7
      obtain ⟨ph, e8, _⟩ := DataW.trod_bool (show Tryd.prog.underlying 4 = some .bool from by kernel_rfl) g8
      obtain ⟨a, c, G, rfl, hI, hR⟩ := open_ints_at g9
      simp only [List.cons.injEq, and_true] at e0 e1 e2 e3 e4 e5 e6 e7 e8
      subst e0 e1 e2 e3 e4 e5 e6 e7 e8
      obtain ⟨tf, ht⟩ := str_as T
      refine ⟨k, vv, l, N, z, D, S, tf, T.size, ph, a, c, G, by rw [← ht]; rfl, hI, ?_⟩
      have h8 := hR reachBytes hw
      have : reachBytes ≤ 160000000000000 := by decide
      omega
end Go.Proofs.YtiffpkjafnjpfaaDoor
