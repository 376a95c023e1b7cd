/-
  PacketPuts OF A HEADER WHOSE PARTS ARE KNOWN.
  ARRAYS OF BYTES THAT CAME IN, by value, alone or in a struct.
  A HEADER THAT CAME IN.
  THE LAW's from, THE DOCUMENT's Same.
  THE DOCUMENT's number AND name.
  WHAT getLong ANSWERS, CASE BY CASE.
  WHAT THE DOCUMENT's Get WANTS: bits, names, where it stands.
  WHAT Put MADE, READ BY Get (plain mathematics): the parts of a header in a row of bytes.
  Get OF WHAT Put MADE (plain mathematics): each kind.
  Get OF WHAT Put MADE: an Initial; all kinds in one.
  WHAT IS PUT IS GOT: the program's Put and Get, as contracts that a law can join.
  PacketBack: the packets with a Length that is there
  PacketBack: the packets whose Length is more than there is
  PacketBack: short headers
  PacketBack: headers of kind 3
  PacketBack: headers of kind 5
  PacketBack: headers that are not in form
-/
import Derived.Test.YtjbpjoondmcnlaaDoorPackM
import Derived.Test.YtjbpjoondmcnlaaDoorRowIn
import Derived.Test.YtjbpjoondmcnlaaDoorKit
import Derived.Deep.Slices
import Derived.SizedLaws
import Derived.Test.YtjbpjoondmcnlaaDoorRdG
import Derived.Test.YtjbpjoondmcnlaaDoorPackL
namespace Go.Proofs.YtjbpjoondmcnlaaDoor
open Go Go.RowKit Go.BigFrame
set_option linter.unusedSimpArgs false
set_option linter.unusedVariables false
set_option maxRecDepth 100000
theorem OwnS.conv {B : Nat} {v : Value} {S : ByteArray} {w : World} (h : OwnS B v S w) : (convert 26 9 v).run Tryd.prog w = .ok (.string S) w := by
  obtain ⟨n, f, ho, rfl⟩ := h
  exact (bytesAre_own ho).now
set_option maxHeartbeats 8000000 in
theorem puts_any (k v l N z : Int) (D S : ByteArray) (tf : Nat → BitVec 8) (nt : Nat) (ph : Bool) (a : Option Addr) (c : Nat) (G : List Int) (w : World) (hL : IntsIn w (.slice a G.length c) G) (hG : G.length ≤ 20000000000000) (tab : Tab w) :
    Calls Tryd.prog 9 #[.agg (hdC k v D S (strOf tf nt) l N z ph (.slice a G.length c))] w fun e w' => e = .returned (.bool true) ∧ Below w.heap.size w w' := by
  -- what both tell
  obtain ⟨X, E, DP, PP⟩ : ∃ (X : ByteArray) (E : Int), (∀ w', Below w.heap.size w w' → Calls Tryd.prog 32 #[.agg (hdC k v D S (strOf tf nt) l N z ph (.slice a G.length c))] w' fun e w'' => e = .returned (.tuple #[.string X, .int .i64 E]) ∧ Below w'.heap.size w' w'') ∧
      (∀ (w' : World) (L' : Value), IntsIn w' L' G → Tab w' → Calls Tryd.prog 33 #[.agg (hdC k v D S (strOf tf nt) l N z ph L')] w' fun e w'' => ∃ b, e = .returned (.tuple #[b, .int .i64 E]) ∧ BytesAre b X w'' ∧ Below w'.heap.size w' w'') := by
    by_cases hr : inB G D.size S.size nt v l N z ∧ inF k v l N z S.size nt G.length ph
    · obtain ⟨zn, rfl⟩ : ∃ zn : Nat, z = (zn : Int) := ⟨z.toNat, by have := hr.1.2.2.2.2.2.2.2.2; omega⟩
      refine ⟨hputS k v D S tf nt l N zn ph G, 0, fun w' hb => docPut_ok k v l N zn D S tf nt ph a c G w' (hL.later hb) hr.1 hr.2, fun w' L' hL' t => ?_⟩
      obtain ⟨a', c', rfl, _⟩ := hL'.at_
      refine (put_ok k v l N zn D S tf nt ph a' c' G w' hL' hr.1 hr.2 t).mono ?_
      rintro e w'' ⟨b, rfl, ⟨n, f, ho, e2⟩, hb⟩
      exact ⟨b, rfl, by rw [e2]; exact bytesAre_own ho, hb⟩
    · refine ⟨⟨#[]⟩, 2, fun w' hb => docPut_bad k v l N z D S (strOf tf nt) D.size S.size nt rfl rfl (strOf_size _ _) ph a c G w' (hL.later hb) hr, fun w' L' hL' t => ?_⟩
      obtain ⟨a', c', rfl, _⟩ := hL'.at_
      refine (put_bad k v l N z D S (strOf tf nt) D.size S.size nt rfl rfl (strOf_size _ _) ph a' c' G w' hL' hr).mono ?_
      rintro e w'' ⟨rfl, hb⟩
      exact ⟨_, rfl, bytesAre_nil _, hb⟩
  have DPH := Lib.hid DP
  have PPH := Lib.hid PP
  have TO := Lib.hid (fun (w' : World) (h : IntsIn w' (.slice a G.length c) G) => to_any k v l N z D S (strOf tf nt) ph a c G w' h hG)
  have HL := Lib.hid hL
  have TB := Lib.hid tab
  clear DP PP hL tab
  generalize strOf tf nt = T at *
  unfold hdC at DPH TO PPH ⊢
  go_enter Tryd.func9, Tryd.ntmps9
  have row := heap_alloc_last w (.cells #[.int .i64 k, .int .i64 v, .string D, .string S, .string T, .int .i64 l, .int .i64 N, .int .i64 z, .bool ph, .slice a G.length c] 63)
  have bel := (Below.refl w.heap.size w).alloc (Nat.le_refl _) (.cells #[.int .i64 k, .int .i64 v, .string D, .string S, .string T, .int .i64 l, .int .i64 N, .int .i64 z, .bool ph, .slice a G.length c] 63)
  go_upto_region 1 with (fail)
  generalize w.alloc _ = wa at *
  have ROW := Lib.hid row
  have BEL := Lib.hid bel
  have CX := Lib.hid (fun (w' : World) (hb : Below wa.heap.size wa w') => cells10 ((hb.block _ (lt_row ROW.out)).trans ROW.out))
  clear row bel
  obtain ⟨c0, c1, c2, c3, c4, c5, c6, c7, c8, c9⟩ := CX.out wa (Below.refl _ _)
  go_wp2_with fail
  with_reducible refine (DPH.out wa BEL.out).mono ?_
  rintro e w1 ⟨rfl, hb1⟩
  have H1 := Lib.hid hb1
  clear hb1 c0 c1 c2 c3 c4 c5 c6 c7 c8 c9
  obtain ⟨c0, c1, c2, c3, c4, c5, c6, c7, c8, c9⟩ := CX.out w1 H1.out
  go_wp2_with fail
  with_reducible refine (TO.out w1 (HL.out.later (BEL.out.trans (H1.out.mono BEL.out.size)))).mono ?_
  rintro e w2 ⟨L', rfl, hL2, hb2⟩
  have H2 := Lib.hid (H1.out.trans (hb2.mono H1.out.size))
  have L2 := Lib.hid hL2
  clear hb2 hL2 c0 c1 c2 c3 c4 c5 c6 c7 c8 c9
  go_wp2_with fail
  with_reducible refine (PPH.out w2 L' L2.out (TB.out.later (BEL.out.trans (H2.out.mono BEL.out.size)))).mono ?_
  rintro e w3 ⟨b, rfl, hba, hb3⟩
  have H3 := Lib.hid (H2.out.trans (hb3.mono H2.out.size))
  have BA := Lib.hid hba
  clear hba hb3
  go_wp2_with fail
  with_reducible refine (heads_any w3).mono ?_
  rintro e w4 ⟨rfl, hb4⟩
  have cv := (BA.out.later hb4).now
  have H4 := Lib.hid (BEL.out.trans ((H3.out.trans (hb4.mono H3.out.size)).mono BEL.out.size))
  clear hb4
  go_wp2_with fail
  go_ret
  exact ⟨by simp, H4.out⟩
end Go.Proofs.YtjbpjoondmcnlaaDoor
namespace Go.Proofs.YtjbpjoondmcnlaaDoor
open Go Go.RowKit Go.ChangeShapes Go.WideShapes
theorem okWide_agg {P : Program} {w : World} {base : Nat} {t : TypeId} {v : Value} (h : (match P.underlying t with | some (.struct _) | some (.array _ _) => true | _ => false) = true) (hk : Value.okWide P w .any base t v) :
    ∃ cs, v = .agg cs ∧ cs.size = P.cellsOf t := by
  unfold Value.okWide at hk
  split at hk
  · obtain ⟨cs, h1, h2, _⟩ := hk; exact ⟨cs, h1, h2⟩
  · obtain ⟨cs, h1, h2, _⟩ := hk; exact ⟨cs, h1, h2⟩
  · rename_i h1 h2
    revert h
    split
    · rename_i f hf; exact absurd hf (h1 f)
    · rename_i a b hf; exact absurd hf (h2 a b)
    · intro h; cases h
/-- The bytes of an array's reading. -/
theorem trod_bytes {H : Type} {enc : TypeId × Value → H} {P : Program} {w : World} {base : Nat} {spare : Nat → Bool} {held : Bool} {fuel : Nat} {t e : TypeId} {n : Nat} {cs : List Value} {x : DataW H × List MemPlace}
    (ht : P.underlying t = some (.array n e)) (he : P.underlying e = some (.int .u8)) (hc : P.cellsOf e = 1) (h : DataW.trod enc P w base spare held fuel t cs = some x) :
    ∃ f : Nat → BitVec 8, ∀ i, i < n → cs[i]? = some (.int .u8 (n8 (f i))) := by
  obtain ⟨xs, m, _, _, _, hl, hf⟩ := DataW.trod_array ht h
  have key : ∀ i, i < n → ∃ z : Int, cs[i]? = some (.int .u8 z) ∧ (Lit.int .u8 z).wf = true := fun i hi => by
    have h1 := hf i hi
    rw [hc, Nat.mul_one, List.getElem?_eq_getElem (by omega)] at h1
    obtain ⟨z, h2, _, h3⟩ := DataW.trod_int he h1
    refine ⟨z, ?_, h3⟩
    have h4 : ((cs.drop i).take 1)[0]? = some (.int .u8 z) := by rw [h2]; rfl
    simpa using h4
  refine ⟨fun i => match cs[i]? with | some (.int _ z) => BitVec.ofInt 8 z | _ => 0#8, fun i hi => ?_⟩
  obtain ⟨z, h1, h2⟩ := key i hi
  simp only [h1]
  rw [← n8_of_wf z h2]
theorem bits_nat_eq (n : Nat) (h : n ≤ maxLen) : n ≤ 9223372036854775807 := by unfold maxLen at h; omega
end Go.Proofs.YtjbpjoondmcnlaaDoor
namespace Go.Proofs.YtjbpjoondmcnlaaDoor
open Go Go.RowKit Go.ChangeShapes Go.WideShapes
set_option linter.unusedSimpArgs false
set_option linter.unusedVariables false
set_option maxRecDepth 100000
theorem open_ints_at {H : Type} {enc : TypeId × Value → H} {w : World} {fuel : Nat} {c : Value} {y : DataW H × List MemPlace} (h : DataW.trod enc Tryd.prog w 0 (fun _ => true) true fuel 56 [c] = some y) :
    ∃ a cap G, c = .slice a G.length cap ∧ IntsIn w (.slice a G.length cap) G ∧ ∀ R : Nat, (∀ n ∈ DataW.weights Tryd.prog 56 y.1, n ≤ R) → G.length * 8 ≤ R := by
  rcases open_ints Tryd.underlying56 Tryd.underlying3 (by kernel_rfl) h with ⟨hcs, hy⟩ | ⟨x, l, cp, zs, hcs, _, hl, hm, hz, hy, hcell, hwz⟩
  · obtain rfl : c = .slice none 0 0 := by simpa using hcs
    exact ⟨none, 0, [], rfl, ⟨none, 0, rfl, ⟨Nat.le_refl _, Nat.zero_le _⟩, fun i hi => by simp at hi⟩, fun _ _ => Nat.zero_le _⟩
  · obtain rfl : c = .slice (some x) l cp := by simpa using hcs
    have hz' : zs.length = cp := by simpa using hz
    have hlen : (zs.take l).length = l := by rw [List.length_take]; omega
    refine ⟨some x, cp, zs.take l, by rw [hlen], ⟨some x, cp, rfl, ⟨by rw [hlen]; exact hl, hm⟩, fun i hi => ?_⟩, fun R hR => ?_⟩
    · rw [hlen] at hi
      obtain ⟨b, off, spot⟩ := x
      have hc := hcell i (by omega)
      have hspot : spot = none := by simpa [Addr.add] using World.cell?_spot (hcell 0 (by omega))
      subst hspot
      rw [Go.WideShapes.add_plain] at hc
      refine ⟨b, off, rfl, ?_, ?_⟩
      · have := World.block_lt_of_cell? w _ hc
        simpa using this
      · rw [hc]
        congr 2
        simp [List.getElem_take, List.getD_eq_getElem?_getD, List.getElem?_eq_getElem (show i < zs.length by omega)]
    · subst hy
      have h1 := hR (((lits .i64 (zs.take l)).length + (lits .i64 (zs.drop l)).length) * Tryd.prog.bytesOf 3) (by
        rw [DataW.weights, Tryd.underlying56]
        exact List.mem_cons_self)
      rw [show Tryd.prog.bytesOf 3 = 8 by kernel_rfl] at h1
      simp only [lits, List.length_map, List.length_take, List.length_drop] at h1
      rw [hlen]
      omega
theorem open_header {H : Type} {enc : TypeId × Value → H} {w : World} {base : Nat} {v : Value} {d : DataW H} {p : List MemPlace} (hk : Value.okWide Tryd.prog w .any base 63 v)
    (h : DataW.Trod enc Tryd.prog w 0 (fun _ => true) true 63 v d p) (hz : ∀ n ∈ DataW.weights Tryd.prog 63 d, n ≤ reachBytes) :
    ∃ k vv l N z D S tf nt ph a c G, v = .agg (hdC k vv D S (strOf tf nt) l N z ph (.slice a G.length c)) ∧ IntsIn w (.slice a G.length c) G ∧ G.length ≤ 20000000000000 := by
  obtain ⟨cs, rfl, hs⟩ := okWide_agg (by kernel_rfl) hk
  have hs10 : cs.size = 10 := hs.trans (by kernel_rfl)
  obtain ⟨fuel, hf⟩ := h
  obtain ⟨xs, n, _, hd, _, hl, hx⟩ := DataW.trod_struct Tryd.underlying63 hf
  match xs, hl with
  | [y0, y1, y2, y3, y4, y5, y6, y7, y8, y9], _ =>
    obtain rfl : d = .agg [y0.1, y1.1, y2.1, y3.1, y4.1, y5.1, y6.1, y7.1, y8.1, y9.1] := by
      have := congrArg Prod.fst hd
      simpa using this
    have hw : ∀ n ∈ DataW.weights Tryd.prog 56 y9.1, n ≤ reachBytes := fun n hn => hz n (by
      rw [DataW.weights, Tryd.underlying63]
      exact DataW.weights_mem_each (j := 9) (t := 56) (d := y9.1) rfl rfl n hn)
    match cs, hs10 with
    | ⟨[v0, v1, v2, v3, v4, v5, v6, v7, v8, v9]⟩, _ =>
      have g0 : DataW.trod enc Tryd.prog w 0 (fun _ => true) true n 3 [v0] = some y0 := hx 0 _ rfl
      have g1 : DataW.trod enc Tryd.prog w 0 (fun _ => true) true n 3 [v1] = some y1 := hx 1 _ rfl
      have g2 : DataW.trod enc Tryd.prog w 0 (fun _ => true) true n 9 [v2] = some y2 := hx 2 _ rfl
      have g3 : DataW.trod enc Tryd.prog w 0 (fun _ => true) true n 9 [v3] = some y3 := hx 3 _ rfl
      have g4 : DataW.trod enc Tryd.prog w 0 (fun _ => true) true n 9 [v4] = some y4 := hx 4 _ rfl
      have g5 : DataW.trod enc Tryd.prog w 0 (fun _ => true) true n 3 [v5] = some y5 := hx 5 _ rfl
      have g6 : DataW.trod enc Tryd.prog w 0 (fun _ => true) true n 3 [v6] = some y6 := hx 6 _ rfl
      have g7 : DataW.trod enc Tryd.prog w 0 (fun _ => true) true n 3 [v7] = some y7 := hx 7 _ rfl
      have g8 : DataW.trod enc Tryd.prog w 0 (fun _ => true) true n 4 [v8] = some y8 := hx 8 _ rfl
      have g9 : DataW.trod enc Tryd.prog w 0 (fun _ => true) true n 56 [v9] = some y9 := hx 9 _ rfl
      have ui : Tryd.prog.underlying 3 = some (.int .i64) := by kernel_rfl
      have us : Tryd.prog.underlying 9 = some .string := by kernel_rfl
      obtain ⟨k, e0, _, _⟩ := DataW.trod_int ui g0
      obtain ⟨vv, e1, _, _⟩ := DataW.trod_int ui g1
      obtain ⟨D, e2, _, _⟩ := DataW.trod_string us g2
      obtain ⟨S, e3, _, _⟩ := DataW.trod_string us g3
      obtain ⟨T, e4, _, _⟩ := DataW.trod_string us g4
      obtain ⟨l, e5, _, _⟩ := DataW.trod_int ui g5
      obtain ⟨N, e6, _, _⟩ := DataW.trod_int ui g6
      obtain ⟨z, e7, _, _⟩ := DataW.trod_int ui g7
      obtain ⟨ph, e8, _⟩ := DataW.trod_bool (show Tryd.prog.underlying 4 = some .bool from by kernel_rfl) g8
      obtain ⟨a, c, G, rfl, hI, hR⟩ := open_ints_at g9
      simp only [List.cons.injEq, and_true] at e0 e1 e2 e3 e4 e5 e6 e7 e8
      subst e0 e1 e2 e3 e4 e5 e6 e7 e8
      obtain ⟨tf, ht⟩ := str_as T
      refine ⟨k, vv, l, N, z, D, S, tf, T.size, ph, a, c, G, by rw [← ht]; rfl, hI, ?_⟩
      have h8 := hR reachBytes hw
      have : reachBytes ≤ 160000000000000 := by decide
      omega
end Go.Proofs.YtjbpjoondmcnlaaDoor
namespace Go.Proofs.YtjbpjoondmcnlaaDoor
open Go Go.RowKit Go.BigFrame
set_option linter.unusedSimpArgs false
set_option linter.unusedVariables false
set_option maxRecDepth 100000
theorem refhd_zero : (Tryd.prog.info? 63).map (·.zero) = some (some (.agg (hdC 0 0 ⟨#[]⟩ ⟨#[]⟩ ⟨#[]⟩ 0 0 0 false (.slice none 0 0)))) := by kernel_rfl
theorem hdC_one' (k v : Int) (D S T : ByteArray) (l N z : Int) (ph : Bool) (aL : Option Addr) (m cL : Nat) : (hdC k v D S T l N z ph (.slice aL m cL)).all (·.oneCell') = true := by
  simp [hdC, Value.oneCell']
set_option maxHeartbeats 4000000 in
theorem ints_same (a1 a2 : Option Addr) (c1 c2 : Nat) (G : List Int) (w : World) (h1 : IntsIn w (.slice a1 G.length c1) G) (h2 : IntsIn w (.slice a2 G.length c2) G) :
    Calls Tryd.prog 70 #[.slice a1 G.length c1, .slice a2 G.length c2] w fun e w' => e = .returned (.bool true) ∧ Below w.heap.size w w' := by
  obtain ⟨a', c', e1, hc1, at1⟩ := h1.at_
  injection e1 with e1 _ e3
  subst e1 e3
  obtain ⟨a', c', e1, hc2, at2⟩ := h2.at_
  injection e1 with e1 _ e3
  subst e1 e3
  have hn63 : G.length ≤ 9223372036854775807 := by have := hc1.1; have := hc1.2; unfold maxLen at *; omega
  have H1 := Lib.hid at1
  have H2 := Lib.hid at2
  clear h1 h2 at1 at2 hc1 hc2
  obtain ⟨n, hn⟩ : ∃ n, G.length = n := ⟨_, rfl⟩
  have HN := Lib.hid hn
  rw [hn]
  have hn' : n ≤ 9223372036854775807 := by omega
  clear hn hn63
  go_enter Tryd.func70, Tryd.ntmps70
  go_wp2_with fail
  go_loopw [5] (fun s5 wr => ∃ j : Nat, j ≤ n ∧ Below w.heap.size w wr ∧ s5 = .int .i64 (j : Int)) (fun s5 _ => ((n : Int) - intOf s5).toNat)
  case atStart => exact ⟨0, by omega, Below.refl _ _, rfl⟩
  case round =>
    obtain ⟨j, hj, hb, rfl⟩ := hrel
    have HB := Lib.hid hb
    by_cases hlt : j < n
    · have hjG : j < G.length := by have := HN.out; omega
      obtain ⟨b1, o1, rfl, l1, hcell1⟩ := H1.out j hjG
      obtain ⟨b2, o2, rfl, l2, hcell2⟩ := H2.out j hjG
      generalize G[j] = y at hcell1 hcell2
      rw [← hb.cell (p := ⟨b1, o1 + j, none⟩) l1] at hcell1
      rw [← hb.cell (p := ⟨b2, o2 + j, none⟩) l2] at hcell2
      have d1 : wr.drew.cell? ⟨b1, o1 + j, none⟩ = some (.int .i64 y) := hcell1
      have d2 : wr.drew.cell? ⟨b2, o2 + j, none⟩ = some (.int .i64 y) := hcell2
      have hji : (j : Int) < (n : Int) := by omega
      clear hjG hb l1 l2
      go_upto_region 6 with (fail)
      go_region
      go_wp2_with fail
      go_roundw
      case rel => exact ⟨j + 1, by omega, HB.out.drew, by congr 1⟩
      case measure => simp [intOf]; omega
    · obtain rfl : j = n := by omega
      clear hb
      go_wp2_with fail
      go_ret
      exact ⟨rfl, HB.out⟩
set_option maxHeartbeats 4000000 in
theorem from_any (k v l N z : Int) (D S T : ByteArray) (ph : Bool) (aL : Option Addr) (m cL : Nat) (w : World) :
    Calls Tryd.prog 39 #[.agg (hdC k v D S T l N z ph (.slice aL m cL))] w fun e w' => e = .returned (.agg (hdC k v D S T l N z ph (.slice aL m cL))) ∧ Below w.heap.size w w' := by
  unfold hdC
  go_enter Tryd.func39, Tryd.ntmps39
  go_upto_region 1 with (first
    | (refine wpList_alloc_row (o := ⟨some 2, .alloc 63, _, _, _, _⟩) rfl 63 rfl _ refhd_zero ?_)
    | fail)
  have r0 := rows_alloc w [.cells (hdC k v D S T l N z ph (.slice aL m cL)) 66, .cells (hdC 0 0 ⟨#[]⟩ ⟨#[]⟩ ⟨#[]⟩ 0 0 0 false (.slice none 0 0)) 63] 0
  have r1 := rows_alloc w [.cells (hdC k v D S T l N z ph (.slice aL m cL)) 66, .cells (hdC 0 0 ⟨#[]⟩ ⟨#[]⟩ ⟨#[]⟩ 0 0 0 false (.slice none 0 0)) 63] 1
  have bel : Below w.heap.size w ((w.alloc (.cells (hdC k v D S T l N z ph (.slice aL m cL)) 66)).alloc (.cells (hdC 0 0 ⟨#[]⟩ ⟨#[]⟩ ⟨#[]⟩ 0 0 0 false (.slice none 0 0)) 63)) := ((Below.refl w.heap.size w).alloc (Nat.le_refl _) _).alloc (by simp) _
  have hs1 : (w.alloc (.cells (hdC k v D S T l N z ph (.slice aL m cL)) 66)).heap.size = w.heap.size + 1 := by simp
  simp only [List.foldl_cons, List.foldl_nil, Nat.add_zero] at r0 r1
  have RB := Lib.hid bel
  rw [show (w.alloc (.cells #[.int .i64 k, .int .i64 v, .string D, .string S, .string T, .int .i64 l, .int .i64 N, .int .i64 z, .bool ph, .slice aL m cL] 66)) = (w.alloc (.cells (hdC k v D S T l N z ph (.slice aL m cL)) 66)) from rfl]
  try rw [hs1]
  generalize World.alloc _ _ = w1 at *
  obtain ⟨c0, c1, c2, c3, c4, c5, c6, c7, c8, c9⟩ := cells10 r0
  have R1 := Lib.hid r1
  clear r0 r1 bel hs1
  go_wp2_with (first
    | (refine wpList_store_row (op := ⟨none, .store 63 _ _, _, _, _, _⟩) rfl 63 _ _ rfl (w.heap.size + 1) 63 _ (hdC k v D S T l N z ph (.slice aL m cL)) rfl rfl R1.out rfl (by kernel_rfl) (hdC_one' _ _ _ _ _ _ _ _ _ _ _ _) ?_
       intro w9 rs
       have RS9 := Lib.hid rs
       clear rs)
    | fail)
  refine ret_row (w.heap.size + 1) 63 63 (hdC k v D S T l N z ph (.slice aL m cL)) rfl _ rfl RS9.out.row Tryd.underlying63 rfl (by kernel_rfl) rfl ?_
  exact ⟨rfl, RB.out.trans (RS9.out.below _ (Nat.le_succ _))⟩
set_option maxHeartbeats 8000000 in
theorem same_yes (k v l N z : Int) (D S T : ByteArray) (ph : Bool) (a1 a2 : Option Addr) (c1 c2 : Nat) (G : List Int) (w : World) (h1 : IntsIn w (.slice a1 G.length c1) G) (h2 : IntsIn w (.slice a2 G.length c2) G) :
    Calls Tryd.prog 38 #[.agg (hdC k v D S T l N z ph (.slice a1 G.length c1)), .agg (hdC k v D S T l N z ph (.slice a2 G.length c2))] w fun e w' => e = .returned (.bool true) ∧ Below w.heap.size w w' := by
  have IS := Lib.hid (fun (w' : World) (hb : Below w.heap.size w w') => ints_same a1 a2 c1 c2 G w' (h1.later hb) (h2.later hb))
  clear h1 h2
  generalize G.length = n at *
  unfold hdC
  have bel : Below w.heap.size w ((w.alloc (.cells #[.int .i64 k, .int .i64 v, .string D, .string S, .string T, .int .i64 l, .int .i64 N, .int .i64 z, .bool ph, .slice a1 n c1] 63)).alloc (.cells #[.int .i64 k, .int .i64 v, .string D, .string S, .string T, .int .i64 l, .int .i64 N, .int .i64 z, .bool ph, .slice a2 n c2] 63)) := ((Below.refl w.heap.size w).alloc (Nat.le_refl _) _).alloc (by simp) _
  have BEL := Lib.hid bel
  clear bel
  go_enter Tryd.func38, Tryd.ntmps38
  go_wp2_with fail
  with_reducible refine (IS.out _ BEL.out).mono ?_
  rintro x w' ⟨rfl, hb⟩
  have HB := Lib.hid (BEL.out.trans (hb.mono BEL.out.size))
  clear hb
  go_wp2_with fail
  go_ret
  exact ⟨rfl, HB.out⟩
end Go.Proofs.YtjbpjoondmcnlaaDoor
namespace Go.Proofs.YtjbpjoondmcnlaaDoor
open Go Go.RowKit Go.BigFrame
set_option linter.unusedSimpArgs false
set_option linter.unusedVariables false
set_option maxRecDepth 100000
set_option maxHeartbeats 4000000 in
theorem refNumber_any (g : Nat → BitVec 8) (n : Nat) (hn : n ≤ 4) (w : World) :
    Calls Tryd.prog 64 #[.string (strOf g n)] w fun e w' => e = .returned (.int .i64 (numG g n : Nat)) ∧ w = w' := by
  have hs := strOf_size g n
  go_enter Tryd.func64, Tryd.ntmps64
  go_wp2_with fail
  go_loopw [3, 4] (fun s3 s4 wr => ∃ j : Nat, j ≤ n ∧ wr = w ∧ s4 = .int .i64 (j : Int) ∧ s3 = .int .i64 (numG g j : Nat)) (fun _ s4 _ => ((n : Int) - intOf s4).toNat)
  case atStart => exact ⟨0, by omega, rfl, rfl, rfl⟩
  case round =>
    obtain ⟨j, hj, rfl, rfl, rfl⟩ := hrel
    by_cases hlt : j < n
    · have hx := run_at_str g n j hlt wr
      have hji : (j : Int) < (n : Int) := by omega
      go_wp2_with fail
      have hj4 : numG g j < 4294967296 := Nat.lt_of_lt_of_le (numG_lt _ j) (Nat.le_trans (Nat.pow_le_pow_right (by decide) (show j ≤ 4 by omega)) (by decide))
      have hb := (g j).isLt
      refine ⟨⟨j + 1, by omega, trivial, by congr 1, ?_⟩, by simp [intOf]; omega⟩
      congr 1
      rw [n8_nat, show numG g (j + 1) = numG g j * 256 + (g j).toNat from rfl]
      unfold wrap64
      omega
    · obtain rfl : j = n := by omega
      go_wp2_with fail
      go_ret
      exact ⟨rfl, rfl⟩
theorem run_tail_str (f : Nat → BitVec 8) (lo len : Nat) (h1 : lo ≤ len) (w : World) :
    (Instr.sliceAt 9 (.string (strOf f len)) (some (.int .i64 (lo : Int))) none none).run Tryd.prog w = .ok (.string (strOf (fun i => f (lo + i)) (len - lo))) w := by
  have hu : Tryd.prog.underlying 9 = some .string := by kernel_rfl
  rw [← str_cut f lo len len h1 (Nat.le_refl _)]
  have h0 : (0 : Int) ≤ (lo : Int) := by omega
  have h4 : (lo : Int) ≤ ((strOf f len).size : Int) := by rw [strOf_size]; omega
  have hz := strOf_size f len
  simp [Instr.sliceAt, Instr.slice, Instr.sliceBounds, run_underlying hu, go_sem, h0, h4, Sem.run_bind]
  try (rw [hz])
  try omega
/-- Why a name is none: how many bytes are left, its count. -/
def nmR (left c : Nat) : Int := if left = 0 then 3 else if 20 < c then 2 else if left - 1 < c then 3 else 0
def nmOut (g : Nat → BitVec 8) (n : Nat) : Value :=
  if nmR n (g 0).toNat = 0 then .tuple #[.string (strOf (fun i => g (1 + i)) (g 0).toNat), .string (strOf (fun i => g (1 + (g 0).toNat + i)) (n - (1 + (g 0).toNat))), .int .i64 0] else .tuple #[.string ⟨#[]⟩, .string ⟨#[]⟩, .int .i64 (nmR n (g 0).toNat)]
set_option maxHeartbeats 4000000 in
theorem refName_any (g : Nat → BitVec 8) (n : Nat) (hn : n ≤ 9223372036854775807) (w : World) :
    Calls Tryd.prog 65 #[.string (strOf g n)] w fun e w' => e = .returned (nmOut g n) ∧ Below w.heap.size w w' := by
  have hs := strOf_size g n
  by_cases h0 : n = 0
  · rw [show nmOut g n = .tuple #[.string ⟨#[]⟩, .string ⟨#[]⟩, .int .i64 3] from by unfold nmOut; rw [show nmR n (g 0).toNat = 3 from by unfold nmR; rw [if_pos h0], if_neg (by decide)]]
    subst h0
    rw [str_empty]
    go_enter Tryd.func65, Tryd.ntmps65
    go_wp2_with fail
    go_ret3
    exact ⟨rfl, Below.refl _ _⟩
  have he := str_full (f := g) h0
  have hx := run_at_str g n 0 (by omega) w
  rw [show ((0 : Nat) : Int) = 0 from rfl] at hx
  obtain ⟨c, hc⟩ : ∃ c, (g 0).toNat = c := ⟨_, rfl⟩
  have hw : wrap64 (n8 (g 0)) = (c : Int) := by rw [n8_nat, hc]; have := (g 0).isLt; unfold wrap64; omega
  have hc8 : c < 256 := by rw [← hc]; exact (g 0).isLt
  unfold nmOut
  rw [hc]
  clear hc
  by_cases h20 : 20 < c
  · rw [show nmR n c = 2 from by unfold nmR; rw [if_neg h0, if_pos h20], if_neg (by decide)]
    generalize strOf g n = s at *
    have h20i : (20 : Int) < (c : Int) := by omega
    go_enter Tryd.func65, Tryd.ntmps65
    go_wp2_with fail
    go_ret3
    exact ⟨rfl, Below.refl _ _⟩
  by_cases hl : n - 1 < c
  · rw [show nmR n c = 3 from by unfold nmR; rw [if_neg h0, if_neg h20, if_pos hl], if_neg (by decide)]
    generalize strOf g n = s at *
    have h20i : ¬ (20 : Int) < (c : Int) := by omega
    have hli : (n : Int) - 1 < (c : Int) := by omega
    go_enter Tryd.func65, Tryd.ntmps65
    go_wp2_with fail
    go_ret3
    exact ⟨rfl, Below.refl _ _⟩
  · rw [show nmR n c = 0 from by unfold nmR; rw [if_neg h0, if_neg h20, if_neg hl], if_pos rfl]
    have k1 : ∀ w : World, _ := run_cut_str g 1 (1 + c) n (by omega) (by omega)
    have k2 : ∀ w : World, _ := run_tail_str g (1 + c) n (by omega)
    rw [show 1 + c - 1 = c by omega, show ((1 : Nat) : Int) = 1 from rfl, show ((1 + c : Nat) : Int) = 1 + (c : Int) by omega] at k1
    rw [show ((1 + c : Nat) : Int) = 1 + (c : Int) by omega] at k2
    generalize strOf (fun i => g (1 + i)) c = t1 at *
    generalize strOf (fun i => g (1 + c + i)) (n - (1 + c)) = t2 at *
    generalize strOf g n = s at *
    have h20i : ¬ (20 : Int) < (c : Int) := by omega
    have hli : ¬ (n : Int) - 1 < (c : Int) := by omega
    go_enter Tryd.func65, Tryd.ntmps65
    go_upto_region 8 with (fail)
    go_region
    go_wp2_with fail
    go_ret3
    exact ⟨rfl, (Below.refl _ _).drew⟩
end Go.Proofs.YtjbpjoondmcnlaaDoor
namespace Go.Proofs.YtjbpjoondmcnlaaDoor
open Go Go.RowKit Go.BigFrame
set_option linter.unusedSimpArgs false
set_option linter.unusedVariables false
theorem tk_err {len p : Nat} {e : Int} {n : Nat} (h : ¬ e = 0) : tkN len p e n = 0 ∧ tkE len p e n = e := by
  unfold tkN tkE
  rw [if_neg (by omega), if_neg (by omega)]
  exact ⟨rfl, rfl⟩
theorem tk_ok {len p n : Nat} (h : n ≤ len - p) : tkN len p 0 n = n ∧ tkE len p 0 n = 0 := by
  unfold tkN tkE
  rw [if_pos ⟨rfl, h⟩, if_neg (by omega)]
  exact ⟨rfl, rfl⟩
theorem tk_no {len p n : Nat} (h : len - p < n) : tkN len p 0 n = 0 ∧ tkE len p 0 n = 3 := by
  unfold tkN tkE
  rw [if_neg (by omega), if_pos ⟨rfl, h⟩]
  exact ⟨rfl, rfl⟩
theorem am_err {n most e : Int} (h : ¬ e = 0) : amE n most e = e := by unfold amE; rw [if_neg (by omega)]
theorem am_ok {n most : Int} (h : n ≤ most) : amE n most 0 = 0 := by unfold amE; rw [if_neg (by omega)]
theorem am_no {n most : Int} (h : most < n) : amE n most 0 = 2 := by unfold amE; rw [if_pos ⟨rfl, h⟩]
theorem nmK_ok {n most : Nat} (h : n ≤ most) : nmK n most 0 = n := by unfold nmK; rw [if_pos ⟨rfl, h⟩]
theorem tx_err {len p n most : Nat} {e : Int} (h : ¬ e = 0) : txN len p n most e = 0 ∧ txE len p n most e = e := by
  unfold txN txE
  rw [am_err h]
  exact tk_err h
theorem tx_big {len p n most : Nat} (h : most < n) : txN len p n most 0 = 0 ∧ txE len p n most 0 = 2 := by
  unfold txN txE
  rw [am_no (by omega)]
  exact tk_err (by omega)
theorem tx_ok {len p n most : Nat} (h : n ≤ most) (hl : n ≤ len - p) : txN len p n most 0 = n ∧ txE len p n most 0 = 0 := by
  unfold txN txE
  rw [am_ok (by omega), nmK_ok h]
  exact tk_ok hl
theorem tx_no {len p n most : Nat} (h : n ≤ most) (hl : len - p < n) : txN len p n most 0 = 0 ∧ txE len p n most 0 = 3 := by
  unfold txN txE
  rw [am_ok (by omega), nmK_ok h]
  exact tk_no hl
theorem numG_one (f : Nat → BitVec 8) (p : Nat) : numG (fun i => f (p + i)) 1 = (f p).toNat := by simp [numG]
theorem nm_err {len : Nat} {f : Nat → BitVec 8} {p : Nat} {e : Int} (h : ¬ e = 0) : nmE len f p e = e := by
  unfold nmE
  rw [(tk_err h).2, (tx_err h).2]
theorem nm_bad {len : Nat} {f : Nat → BitVec 8} {p : Nat} {r : Int} (h : nmR (len - p) (f p).toNat = r) (hr : ¬ r = 0) : nmE len f p 0 = r := by
  unfold nmE nmC
  unfold nmR at h
  by_cases h0 : len - p = 0
  · rw [if_pos h0] at h
    rw [(tk_no (by omega)).1, (tk_no (by omega)).2, (tx_err (by omega)).2]
    exact h
  · rw [if_neg h0] at h
    rw [(tk_ok (by omega)).1, (tk_ok (by omega)).2, numG_one]
    by_cases h1 : 20 < (f p).toNat
    · rw [if_pos h1] at h
      rw [(tx_big h1).2]; exact h
    · rw [if_neg h1] at h
      by_cases h2 : len - p - 1 < (f p).toNat
      · rw [if_pos h2] at h
        rw [(tx_no (by omega) (by omega)).2]; exact h
      · rw [if_neg h2] at h
        exact absurd h.symm hr
theorem nm_ok {len : Nat} {f : Nat → BitVec 8} {p : Nat} (h : nmR (len - p) (f p).toNat = 0) : nmE len f p 0 = 0 ∧ nmP len f p 0 = p + 1 + (f p).toNat ∧ nmS len f p 0 = strOf (fun i => f (p + 1 + i)) (f p).toNat ∧ p + 1 + (f p).toNat ≤ len := by
  unfold nmR at h
  by_cases h0 : len - p = 0
  · rw [if_pos h0] at h; cases h
  rw [if_neg h0] at h
  by_cases h1 : 20 < (f p).toNat
  · rw [if_pos h1] at h; cases h
  rw [if_neg h1] at h
  by_cases h2 : len - p - 1 < (f p).toNat
  · rw [if_pos h2] at h; cases h
  have hN : nmN len f p 0 = (f p).toNat := by
    unfold nmN nmC
    rw [(tk_ok (by omega)).1, (tk_ok (by omega)).2, numG_one]
    exact (tx_ok (by omega) (by omega)).1
  have hE : nmE len f p 0 = 0 := by
    unfold nmE nmC
    rw [(tk_ok (by omega)).1, (tk_ok (by omega)).2, numG_one]
    exact (tx_ok (by omega) (by omega)).2
  refine ⟨hE, ?_, ?_, by omega⟩
  · unfold nmP; rw [hN, (tk_ok (by omega)).1]
  · unfold nmS; rw [hN, (tk_ok (by omega)).1]
theorem end_err {len : Nat} {k v : Int} {D S T : ByteArray} {l : Nat} {G : List Int} {p : Nat} {e : Int} (h : ¬ e = 0) : longEnd len k v D S T l G p e = Got.no e := by
  unfold longEnd
  rw [(tk_err h).2, if_neg h]
theorem ct_err {len : Nat} {f : Nat → BitVec 8} {p most : Nat} {e : Int} (h : ¬ e = 0) : ctE len f p most e = e := by unfold ctE; rw [if_neg h]
theorem longKind_err {f : Nat → BitVec 8} {len kd V : Nat} {D S : ByteArray} {p : Nat} {e : Int} (h : ¬ e = 0) : longKind f len kd V D S p e = Got.no e := by
  unfold longKind
  split
  · rw [show vsE len p e = e from by unfold vsE; rw [am_err h, if_neg (by omega)]]
    exact end_err h
  · split
    · rw [(tx_err h).2]; exact end_err h
    · split
      · rw [ct_err h, (tx_err h).2, ct_err h]; exact end_err h
      · rw [ct_err h]; exact end_err h
theorem long_few {f : Nat → BitVec 8} {len : Nat} (h : len < 5) : long f len = Got.no 3 := by
  unfold long
  rw [(tk_no (by omega)).2, nm_err (p := 1 + tkN len 1 0 4) (by omega), nm_err (by omega)]
  exact longKind_err (by omega)
theorem long_n1 {f : Nat → BitVec 8} {len : Nat} {r : Int} (h5 : 5 ≤ len) (h : nmR (len - 5) (f 5).toNat = r) (hr : ¬ r = 0) : long f len = Got.no r := by
  unfold long
  rw [(tk_ok (by omega)).1, (tk_ok (by omega)).2, nm_bad h hr, nm_err hr]
  exact longKind_err hr
theorem long_n2 {f : Nat → BitVec 8} {len : Nat} {r : Int} (h5 : 5 ≤ len) (h1 : nmR (len - 5) (f 5).toNat = 0) (h : nmR (len - (5 + 1 + (f 5).toNat)) (f (5 + 1 + (f 5).toNat)).toNat = r) (hr : ¬ r = 0) : long f len = Got.no r := by
  unfold long
  rw [(tk_ok (by omega)).1, (tk_ok (by omega)).2, (nm_ok h1).1, (nm_ok h1).2.1, nm_bad h hr]
  exact longKind_err hr
theorem long_ok {f : Nat → BitVec 8} {len : Nat} (h5 : 5 ≤ len) (h1 : nmR (len - 5) (f 5).toNat = 0) (h2 : nmR (len - (5 + 1 + (f 5).toNat)) (f (5 + 1 + (f 5).toNat)).toNat = 0) :
    long f len = longKind f len (f 0 >>> 4 &&& 3#8).toNat (numG (fun i => f (1 + i)) 4) (strOf (fun i => f (5 + 1 + i)) (f 5).toNat) (strOf (fun i => f (5 + 1 + (f 5).toNat + 1 + i)) (f (5 + 1 + (f 5).toNat)).toNat)
      (5 + 1 + (f 5).toNat + 1 + (f (5 + 1 + (f 5).toNat)).toNat) 0 := by
  unfold long
  rw [(tk_ok (by omega)).1, (tk_ok (by omega)).2, (nm_ok h1).1, (nm_ok h1).2.1, (nm_ok h1).2.2.1, (nm_ok h2).1, (nm_ok h2).2.1, (nm_ok h2).2.2.1]
theorem lk_v_bad {f : Nat → BitVec 8} {len kd : Nat} {D S : ByteArray} {p : Nat} (h : (len - p) % 4 ≠ 0 ∨ len - p = 0 ∨ 64 < len - p) : longKind f len kd 0 D S p 0 = Got.no 2 := by
  unfold longKind
  have hv : vsE len p 0 = 2 := by
    unfold vsE
    by_cases h1 : (16 : Int) < ((len - p) / 4 : Nat)
    · rw [am_no h1, if_neg (by omega)]
    · rw [am_ok (by omega), if_pos ⟨rfl, by omega⟩]
  rw [if_pos rfl, hv]
  exact end_err (by omega)
theorem lk_v_ok {f : Nat → BitVec 8} {len kd : Nat} {D S : ByteArray} {p : Nat} (h : ¬ ((len - p) % 4 ≠ 0 ∨ len - p = 0 ∨ 64 < len - p)) : longKind f len kd 0 D S p 0 = ⟨5, 0, D, S, ⟨#[]⟩, 0, vsG f p ((len - p) / 4), len, len, 0⟩ := by
  unfold longKind
  have hv : vsE len p 0 = 0 := by
    unfold vsE
    rw [am_ok (by omega), if_neg (by omega)]
  rw [if_pos rfl, hv, if_pos rfl, if_pos rfl]
  unfold longEnd
  rw [(tk_ok (by omega)).1, (tk_ok (by omega)).2, if_pos rfl]
  rfl
theorem lk_3_bad {f : Nat → BitVec 8} {len V : Nat} {D S : ByteArray} {p : Nat} (hV : V ≠ 0) (h : 512 < len - p) : longKind f len 3 V D S p 0 = Got.no 2 := by
  unfold longKind
  rw [if_neg hV, if_pos rfl, (tx_big h).2]
  exact end_err (by omega)
theorem lk_3_ok {f : Nat → BitVec 8} {len V : Nat} {D S : ByteArray} {p : Nat} (hV : V ≠ 0) (hp : p ≤ len) (h : len - p ≤ 512) : longKind f len 3 V D S p 0 = ⟨3, V, D, S, strOf (fun i => f (p + i)) (len - p), 0, [], len, len, 0⟩ := by
  unfold longKind
  rw [if_neg hV, if_pos rfl, (tx_ok h (Nat.le_refl _)).1, (tx_ok h (Nat.le_refl _)).2]
  unfold longEnd
  rw [(tk_ok (by omega)).1, (tk_ok (by omega)).2, if_pos rfl, show p + (len - p) = len by omega]
  rfl
/-- A count, and what is left behind it. -/
def cnt (f : Nat → BitVec 8) (len : Nat) (k : Int) (V : Nat) (D S T : ByteArray) (p : Nat) (e : Int) : Got := longEnd len k (V : Int) D S T (ctV len f p 16383 e) [] (ctP len f p e) (ctE len f p 16383 e)
theorem ct_no {f : Nat → BitVec 8} {len p most : Nat} (h : ctG len f p = false) : ctE len f p most 0 = 3 := by unfold ctE; rw [if_pos rfl, if_neg (by rw [h]; decide)]
theorem ct_big {f : Nat → BitVec 8} {len p most : Nat} (h : ctG len f p = true) (hb : most < getV (fun i => f (p + i)) (len - p)) : ctE len f p most 0 = 2 := by unfold ctE; rw [if_pos rfl, if_pos h, am_no (by omega)]
theorem ct_ok {f : Nat → BitVec 8} {len p most : Nat} (h : ctG len f p = true) (hb : getV (fun i => f (p + i)) (len - p) ≤ most) :
    ctE len f p most 0 = 0 ∧ ctV len f p most 0 = getV (fun i => f (p + i)) (len - p) ∧ ctP len f p 0 = p + getK (fun i => f (p + i)) (len - p) := by
  unfold ctE ctV ctP
  rw [if_pos rfl, if_pos h, if_pos ⟨rfl, h⟩, if_pos ⟨rfl, h⟩, am_ok (by omega), nmK_ok hb]
  exact ⟨rfl, rfl, rfl⟩
theorem cnt_no {f : Nat → BitVec 8} {len V : Nat} {k : Int} {D S T : ByteArray} {p : Nat} (h : ctG len f p = false) : cnt f len k V D S T p 0 = Got.no 3 := by unfold cnt; rw [ct_no h]; exact end_err (by omega)
theorem cnt_big {f : Nat → BitVec 8} {len V : Nat} {k : Int} {D S T : ByteArray} {p : Nat} (h : ctG len f p = true) (hb : 16383 < getV (fun i => f (p + i)) (len - p)) : cnt f len k V D S T p 0 = Got.no 2 := by unfold cnt; rw [ct_big h hb]; exact end_err (by omega)
theorem cnt_few {f : Nat → BitVec 8} {len V : Nat} {k : Int} {D S T : ByteArray} {p : Nat} (h : ctG len f p = true) (hb : getV (fun i => f (p + i)) (len - p) ≤ 16383) (hl : len - (p + getK (fun i => f (p + i)) (len - p)) < getV (fun i => f (p + i)) (len - p)) : cnt f len k V D S T p 0 = Got.no 3 := by
  unfold cnt
  rw [(ct_ok h hb).1, (ct_ok h hb).2.1, (ct_ok h hb).2.2]
  unfold longEnd
  rw [(tk_no hl).2, if_neg (by omega)]
theorem cnt_ok {f : Nat → BitVec 8} {len V : Nat} {k : Int} {D S T : ByteArray} {p : Nat} (h : ctG len f p = true) (hb : getV (fun i => f (p + i)) (len - p) ≤ 16383) (hl : getV (fun i => f (p + i)) (len - p) ≤ len - (p + getK (fun i => f (p + i)) (len - p))) :
    cnt f len k V D S T p 0 = ⟨k, V, D, S, T, (getV (fun i => f (p + i)) (len - p) : Nat), [], p + getK (fun i => f (p + i)) (len - p), p + getK (fun i => f (p + i)) (len - p) + getV (fun i => f (p + i)) (len - p), 0⟩ := by
  unfold cnt
  rw [(ct_ok h hb).1, (ct_ok h hb).2.1, (ct_ok h hb).2.2]
  unfold longEnd
  rw [(tk_ok hl).1, (tk_ok hl).2, if_pos rfl]
theorem lk_other {f : Nat → BitVec 8} {len kd V : Nat} {D S : ByteArray} {p : Nat} (hV : V ≠ 0) (h3 : kd ≠ 3) (h0 : kd ≠ 0) : longKind f len kd V D S p 0 = cnt f len kd V D S ⟨#[]⟩ p 0 := by
  unfold longKind cnt
  rw [if_neg hV, if_neg h3, if_neg h0]
theorem lk_0_no {f : Nat → BitVec 8} {len V : Nat} {D S : ByteArray} {p : Nat} (hV : V ≠ 0) (h : ctG len f p = false) : longKind f len 0 V D S p 0 = Got.no 3 := by
  unfold longKind
  rw [if_neg hV, if_neg (by decide), if_pos rfl, ct_no h, (tx_err (by omega)).2, ct_err (by omega)]
  exact end_err (by omega)
theorem lk_0_big {f : Nat → BitVec 8} {len V : Nat} {D S : ByteArray} {p : Nat} (hV : V ≠ 0) (h : ctG len f p = true) (hb : 512 < getV (fun i => f (p + i)) (len - p)) : longKind f len 0 V D S p 0 = Got.no 2 := by
  unfold longKind
  rw [if_neg hV, if_neg (by decide), if_pos rfl, ct_big h hb, (tx_err (by omega)).2, ct_err (by omega)]
  exact end_err (by omega)
theorem lk_0_few {f : Nat → BitVec 8} {len V : Nat} {D S : ByteArray} {p : Nat} (hV : V ≠ 0) (h : ctG len f p = true) (hb : getV (fun i => f (p + i)) (len - p) ≤ 512) (hl : len - (p + getK (fun i => f (p + i)) (len - p)) < getV (fun i => f (p + i)) (len - p)) : longKind f len 0 V D S p 0 = Got.no 3 := by
  unfold longKind
  rw [if_neg hV, if_neg (by decide), if_pos rfl, (ct_ok h hb).1, (ct_ok h hb).2.1, (ct_ok h hb).2.2, (tx_no hb hl).2, ct_err (by omega)]
  exact end_err (by omega)
theorem lk_0_ok {f : Nat → BitVec 8} {len V : Nat} {D S : ByteArray} {p : Nat} (hV : V ≠ 0) (h : ctG len f p = true) (hb : getV (fun i => f (p + i)) (len - p) ≤ 512) (hl : getV (fun i => f (p + i)) (len - p) ≤ len - (p + getK (fun i => f (p + i)) (len - p))) :
    longKind f len 0 V D S p 0 = cnt f len 0 V D S (strOf (fun i => f (p + getK (fun i => f (p + i)) (len - p) + i)) (getV (fun i => f (p + i)) (len - p))) (p + getK (fun i => f (p + i)) (len - p) + getV (fun i => f (p + i)) (len - p)) 0 := by
  unfold longKind cnt
  rw [if_neg hV, if_neg (by decide), if_pos rfl, (ct_ok h hb).1, (ct_ok h hb).2.1, (ct_ok h hb).2.2, (tx_ok hb hl).1, (tx_ok hb hl).2]
end Go.Proofs.YtjbpjoondmcnlaaDoor
namespace Go.Proofs.YtjbpjoondmcnlaaDoor
open Go Go.RowKit Go.BigFrame
set_option linter.unusedSimpArgs false
set_option linter.unusedVariables false
set_option maxRecDepth 100000
theorem all8 {p : BitVec 8 → Prop} [DecidablePred p] (h : ∀ n, n < 256 → p (BitVec.ofNat 8 n)) (x : BitVec 8) : p x := by
  have h1 := h x.toNat x.isLt
  rwa [BitVec.ofNat_toNat, BitVec.setWidth_eq] at h1
theorem bit128 (x : BitVec 8) : (x &&& 128#8 = 0#8) ↔ x.toNat < 128 := all8 (p := fun x => (x &&& 128#8 = 0#8) ↔ x.toNat < 128) (by decide +kernel) x
theorem bit64 (x : BitVec 8) : (x &&& 64#8 = 0#8) ↔ (x.toNat < 64 ∨ (128 ≤ x.toNat ∧ x.toNat < 192)) := all8 (p := fun x => (x &&& 64#8 = 0#8) ↔ (x.toNat < 64 ∨ (128 ≤ x.toNat ∧ x.toNat < 192))) (by decide +kernel) x
theorem kind4 (x : BitVec 8) : (x >>> 4 &&& 3#8).toNat = x.toNat / 16 % 4 := all8 (p := fun x => (x >>> 4 &&& 3#8).toNat = x.toNat / 16 % 4) (by decide +kernel) x
theorem numG_zero (g : Nat → BitVec 8) : numG g 4 = 0 ↔ (g 0 = 0#8 ∧ g 1 = 0#8 ∧ g 2 = 0#8 ∧ g 3 = 0#8) := by
  have z : ∀ x : BitVec 8, x = 0#8 ↔ x.toNat = 0 := fun x => ⟨fun h => by rw [h]; rfl, fun h => by apply BitVec.eq_of_toNat_eq; rw [h]; rfl⟩
  rw [z, z, z, z]
  simp only [numG]
  omega
theorem sv_iff (f : Nat → BitVec 8) (len : Nat) : sv f len ↔ (128 ≤ (f 0).toNat ∧ 5 ≤ len ∧ numG (fun i => f (1 + i)) 4 = 0) := by
  unfold sv
  rw [bit128, numG_zero]
  constructor
  · rintro ⟨h1, h2, h3, h4, h5, h6⟩; exact ⟨by omega, h2, h3, h4, h5, h6⟩
  · rintro ⟨h1, h2, h3, h4, h5, h6⟩; exact ⟨by omega, h2, h3, h4, h5, h6⟩
theorem nmOut_ok {f : Nat → BitVec 8} {p len : Nat} (h : nmR (len - p) (f p).toNat = 0) : nmOut (fun i => f (p + i)) (len - p) = .tuple #[.string (strOf (fun i => f (p + 1 + i)) (f p).toNat), .string (strOf (fun i => f (p + 1 + (f p).toNat + i)) (len - (p + 1 + (f p).toNat))), .int .i64 0] := by
  unfold nmOut
  rw [show (fun i => f (p + i)) 0 = f p from rfl, if_pos h]
  simp only [Nat.add_assoc]
  rw [show len - p - (1 + (f p).toNat) = len - (p + (1 + (f p).toNat)) by omega]
theorem nmOut_bad {f : Nat → BitVec 8} {p len : Nat} {r : Int} (h : nmR (len - p) (f p).toNat = r) (hr : ¬ r = 0) : nmOut (fun i => f (p + i)) (len - p) = .tuple #[.string ⟨#[]⟩, .string ⟨#[]⟩, .int .i64 r] := by
  unfold nmOut
  rw [show (fun i => f (p + i)) 0 = f p from rfl, h, if_neg hr]
/-- Where DocGet stands: the result's row, 'none'. -/
structure DSt (w0 : World) (n : Nat) (w : World) : Prop where
  rs : w.heap[n]? = some (.cells (hdC 0 0 ⟨#[]⟩ ⟨#[]⟩ ⟨#[]⟩ 0 0 0 false (.slice none 0 0)) 63 (0, 0))
  nn : w.heap[n + 1]? = some (.cells (hdC 0 0 ⟨#[]⟩ ⟨#[]⟩ ⟨#[]⟩ 0 0 0 false (.slice none 0 0)) 63 (0, 0))
  bl : Below n w0 w
theorem DSt.later {w0 w w' : World} {n : Nat} (h : DSt w0 n w) (hb : Below w.heap.size w w') : DSt w0 n w' :=
  ⟨(hb.block _ (lt_row h.rs)).trans h.rs, (hb.block _ (lt_row h.nn)).trans h.nn, h.bl.trans (hb.mono (by have := lt_row h.rs; omega))⟩
theorem getP_long {f : Nat → BitVec 8} {len : Nat} {own : Int} (ho : 0 ≤ own ∧ own ≤ 20) (hl : len ≠ 0) (hF : 128 ≤ (f 0).toNat) (hn : 192 ≤ (f 0).toNat ∨ (5 ≤ len ∧ numG (fun i => f (1 + i)) 4 = 0)) : getP f len own = long f len := by
  unfold getP
  rw [if_neg (by omega), if_neg hl, if_neg, if_neg (fun h => by have := (bit128 _).1 h; omega)]
  rintro ⟨h1, h2⟩
  rw [bit64] at h1
  rw [sv_iff] at h2
  omega
end Go.Proofs.YtjbpjoondmcnlaaDoor
namespace Go.Proofs.YtjbpjoondmcnlaaDoor
open Go Go.RowKit Go.BigFrame
set_option linter.unusedSimpArgs false
set_option linter.unusedVariables false
/-- A text's bytes. -/
def bx (S : ByteArray) (i : Nat) : BitVec 8 := (S.data.toList.getD i 0).toBitVec
theorem bx_str (S : ByteArray) : strOf (bx S) S.size = S := by
  apply ByteArray.ext
  apply Array.ext'
  show (strL _ S.size).toArray.toList = S.data.toList
  have hl : S.data.toList.length = S.size := by simp
  apply List.ext_getElem?
  intro i
  unfold bx
  by_cases h : i < S.size
  · simp [strL, h]
  · rw [List.getElem?_eq_none (by simp [strL]; omega), List.getElem?_eq_none (by omega)]
theorem bx_of (f : Nat → BitVec 8) (n i : Nat) (h : i < n) : bx (strOf f n) i = f i := by
  have h1 := (strOf_eq (bx (strOf f n)) f n).1 (by have := bx_str (strOf f n); rwa [strOf_size] at this)
  exact h1 i h
theorem bx_left (A B : ByteArray) (i : Nat) (h : i < A.size) : bx (A ++ B) i = bx A i := by
  unfold bx
  rw [ByteArray.data_append, Array.toList_append]
  have hl : A.data.toList.length = A.size := by simp
  rw [List.getD_eq_getElem?_getD, List.getD_eq_getElem?_getD, List.getElem?_append_left (by omega)]
theorem bx_right (A B : ByteArray) (i : Nat) : bx (A ++ B) (A.size + i) = bx B i := by
  unfold bx
  rw [ByteArray.data_append, Array.toList_append]
  have hl : A.data.toList.length = A.size := by simp
  rw [List.getD_eq_getElem?_getD, List.getD_eq_getElem?_getD, List.getElem?_append_right (by omega), hl, show A.size + i - A.size = i by omega]
/-- A text lies in a row of bytes from a place on. -/
def Sg (F : Nat → BitVec 8) (o : Nat) (X : ByteArray) : Prop := ∀ i, i < X.size → F (o + i) = bx X i
theorem size_append (A B : ByteArray) : (A ++ B).size = A.size + B.size := by simp
theorem Sg.left {F : Nat → BitVec 8} {o : Nat} {A B : ByteArray} (h : Sg F o (A ++ B)) : Sg F o A := fun i hi => by
  rw [h i (by rw [size_append]; omega), bx_left _ _ _ hi]
theorem Sg.right {F : Nat → BitVec 8} {o : Nat} {A B : ByteArray} (h : Sg F o (A ++ B)) : Sg F (o + A.size) B := fun i hi => by
  rw [Nat.add_assoc, h _ (by rw [size_append]; omega), bx_right]
theorem Sg.at {F : Nat → BitVec 8} {o n : Nat} {g : Nat → BitVec 8} (h : Sg F o (strOf g n)) (i : Nat) (hi : i < n) : F (o + i) = g i := by
  rw [h i (by rw [strOf_size]; exact hi), bx_of _ _ _ hi]
theorem Sg.text {F : Nat → BitVec 8} {o n : Nat} {X : ByteArray} (h : Sg F o X) (hn : X.size = n) : strOf (fun i => F (o + i)) n = X := by
  subst hn
  rw [(strOf_eq _ _ _).2 h, bx_str]
theorem low_size (N : Int) (z : Nat) : (lowS N z).size = z := strOf_size _ _
theorem low_one {F : Nat → BitVec 8} {o : Nat} {N : Int} (h : Sg F o (lowS N 1)) : F o = BitVec.ofInt 8 N := by
  have := Sg.at h 0 (by omega)
  rw [Nat.add_zero] at this
  rw [this]
  unfold numB
  rw [show 8 * (1 - 1 - 0) = 0 by omega]
  simp
theorem low_one_nat {F : Nat → BitVec 8} {o n : Nat} (h : Sg F o (lowS (n : Int) 1)) (hn : n < 256) : (F o).toNat = n := by
  rw [low_one h, BitVec.toNat_ofInt]
  omega
theorem low_four {F : Nat → BitVec 8} {o : Nat} {v : Int} (h : Sg F o (lowS v 4)) (h0 : 0 ≤ v) (h1 : v < 4294967296) : ((numG (fun i => F (o + i)) 4 : Nat) : Int) = v := by
  have a0 := Sg.at h 0 (by omega)
  have a1 := Sg.at h 1 (by omega)
  have a2 := Sg.at h 2 (by omega)
  have a3 := Sg.at h 3 (by omega)
  have b0 := congrArg BitVec.toNat a0
  have b1 := congrArg BitVec.toNat a1
  have b2 := congrArg BitVec.toNat a2
  have b3 := congrArg BitVec.toNat a3
  simp only [numB, BitVec.toNat_ofInt, Nat.reduceSub, Nat.reduceMul] at b0 b1 b2 b3
  show ((((0 * 256 + (F (o + 0)).toNat) * 256 + (F (o + 1)).toNat) * 256 + (F (o + 2)).toNat) * 256 + (F (o + 3)).toNat : Nat) = v
  rw [b0, b1, b2, b3]
  simp only [Int.reducePow, Nat.reducePow]
  omega
theorem getN_agree {f g : Nat → BitVec 8} : ∀ j, (∀ i, i ≤ j → f i = g i) → getN f j = getN g j
  | 0, h => by unfold getN; rw [h 0 (Nat.le_refl _)]
  | j + 1, h => by
    show getN f j <<< 8 ||| (f (j + 1)).setWidth 64 = getN g j <<< 8 ||| (g (j + 1)).setWidth 64
    rw [getN_agree j (fun i hi => h i (by omega)), h (j + 1) (Nat.le_refl _)]
/-- A number as vlq puts it, read. -/
theorem num_at (g : Nat → BitVec 8) (len : Nat) (x : BitVec 64) (k : Nat) (hk : k < 4) (hx : x.toNat < 2 ^ (8 * 2 ^ k - 2)) (hl : 2 ^ k ≤ len) (h : ∀ i, i < 2 ^ k → g i = vbyte x k i) :
    isNum g len = true ∧ getV g len = x.toNat ∧ getK g len = 2 ^ k := by
  have hpos : 0 < 2 ^ k := Nat.two_pow_pos k
  have hb := gotten_back x k hk hx
  unfold gotten at hb
  have hb : #[Value.int .u64 ((getV (vbyte x k) (2 ^ k) : Nat) : Int), Value.int .i64 ((getK (vbyte x k) (2 ^ k) : Nat) : Int), Value.int .i64 (getE (vbyte x k) (2 ^ k))] = #[.int .u64 (n64 x), .int .i64 ((2 ^ k : Nat) : Int), .int .i64 0] := by injection hb
  have e1 : ((getV (vbyte x k) (2 ^ k) : Nat) : Int) = n64 x := by
    have := congrArg (fun a => a[0]?) hb
    simpa using this
  have e2 : ((getK (vbyte x k) (2 ^ k) : Nat) : Int) = ((2 ^ k : Nat) : Int) := by
    have := congrArg (fun a => a[1]?) hb
    have h3 : some (Value.int .i64 ((getK (vbyte x k) (2 ^ k) : Nat) : Int)) = some (Value.int .i64 ((2 ^ k : Nat) : Int)) := this
    injection h3 with h3
    injection h3
  have hnum : isNum (vbyte x k) (2 ^ k) = true := by
    cases hq : isNum (vbyte x k) (2 ^ k) with
    | true => rfl
    | false =>
      unfold getK at e2
      rw [hq, if_neg (by decide)] at e2
      have e3 : 0 = 2 ^ k := Int.ofNat.inj e2
      omega
  have hgk : gk g = gk (vbyte x k) := by unfold gk; rw [h 0 hpos]
  unfold getV at e1
  unfold getK at e2
  rw [if_pos hnum] at e1 e2
  have e2' : 2 ^ gk (vbyte x k) = 2 ^ k := by exact Int.ofNat.inj e2
  have hn : isNum g len = true := by
    unfold isNum
    rw [hgk, e2']
    exact decide_eq_true ⟨by omega, hl⟩
  refine ⟨hn, ?_, ?_⟩
  · unfold getV
    rw [if_pos hn, hgk, e2']
    rw [e2'] at e1
    rw [getN_agree (g := vbyte x k) (2 ^ k - 1) (fun i hi => h i (by omega))]
    rw [n64_nat] at e1
    exact Int.ofNat.inj e1
  · unfold getK
    rw [if_pos hn, hgk, e2']
end Go.Proofs.YtjbpjoondmcnlaaDoor
namespace Go.Proofs.YtjbpjoondmcnlaaDoor
open Go Go.RowKit Go.BigFrame
set_option linter.unusedSimpArgs false
set_option linter.unusedVariables false
/-- A text of numbers of four bytes each. -/
theorem fours_size : ∀ (G : List Int) (P : ByteArray), (G.foldl (fun s x => s ++ lowS x 4) P).size = P.size + 4 * G.length
  | [], P => rfl
  | x :: G, P => by
    rw [List.foldl_cons, fours_size G, size_append, low_size, List.length_cons]
    omega
theorem fours_left {F : Nat → BitVec 8} {o : Nat} : ∀ (G : List Int) (P : ByteArray), Sg F o (G.foldl (fun s x => s ++ lowS x 4) P) → Sg F o P
  | [], P, h => h
  | x :: G, P, h => (fours_left G (P ++ lowS x 4) h).left
theorem fours_at {F : Nat → BitVec 8} {o : Nat} : ∀ (G : List Int) (P : ByteArray), Sg F o (G.foldl (fun s x => s ++ lowS x 4) P) → ∀ j (hj : j < G.length), Sg F (o + P.size + 4 * j) (lowS G[j] 4)
  | [], P, h, j, hj => by simp at hj
  | x :: G, P, h, j, hj => by
    cases j with
    | zero => exact (fours_left G (P ++ lowS x 4) h).right
    | succ j =>
      have h1 := fours_at G (P ++ lowS x 4) h j (by simpa using hj)
      rw [size_append, low_size] at h1
      have e : o + P.size + 4 * (j + 1) = o + (P.size + 4) + 4 * j := by omega
      rw [e]
      exact h1
theorem pre_size (k v : Int) (z : Nat) (ph : Bool) (D S : ByteArray) : (preS k v z ph D S).size = 7 + D.size + S.size := by
  unfold preS
  simp only [size_append, low_size]
  omega
/-- What lies at a long header's front. -/
structure Front (F : Nat → BitVec 8) (first : Int) (v : Int) (D S : ByteArray) : Prop where
  f0 : F 0 = BitVec.ofInt 8 first
  v4 : ((numG (fun i => F (1 + i)) 4 : Nat) : Int) = v
  nd : (F 5).toNat = D.size
  d : strOf (fun i => F (6 + i)) D.size = D
  ns : (F (6 + D.size)).toNat = S.size
  s : strOf (fun i => F (7 + D.size + i)) S.size = S
theorem front_of {F : Nat → BitVec 8} {k v : Int} {z : Nat} {ph : Bool} {D S : ByteArray} (h : Sg F 0 (preS k v z ph D S)) (hv0 : 0 ≤ v) (hv1 : v < 4294967296) (hD : D.size ≤ 20) (hS : S.size ≤ 20) : Front F (firstN k z ph) v D S := by
  unfold preS at h
  have hA := h.left.left.left
  have hB := h.left.left.right
  have hC := h.left.right
  have hE := h.right
  simp only [size_append, low_size, Nat.zero_add] at hB hC hE
  rw [show 1 + 4 = 5 from rfl] at hC
  have e1 : 1 + 4 + (1 + D.size) = 6 + D.size := by omega
  rw [e1] at hE
  have hC1 := hC.left
  have hC2 := hC.right
  have hE1 := hE.left
  have hE2 := hE.right
  rw [low_size] at hC2 hE2
  refine ⟨low_one hA, low_four hB hv0 hv1, low_one_nat hC1 (by omega), hC2.text rfl, low_one_nat hE1 (by omega), ?_⟩
  have e2 : 6 + D.size + 1 = 7 + D.size := by omega
  rw [e2] at hE2
  exact hE2.text rfl
theorem Front.long {F : Nat → BitVec 8} {first v : Int} {D S : ByteArray} (h : Front F first v D S) (len : Nat) (hD : D.size ≤ 20) (hS : S.size ≤ 20) (hl : 7 + D.size + S.size ≤ len) :
    long F len = longKind F len (F 0 >>> 4 &&& 3#8).toNat (numG (fun i => F (1 + i)) 4) D S (7 + D.size + S.size) 0 := by
  have n1 : nmR (len - 5) (F 5).toNat = 0 := by rw [h.nd]; unfold nmR; rw [if_neg (by omega), if_neg (by omega), if_neg (by omega)]
  have n2 : nmR (len - (5 + 1 + (F 5).toNat)) (F (5 + 1 + (F 5).toNat)).toNat = 0 := by
    rw [h.nd, show 5 + 1 + D.size = 6 + D.size by omega, h.ns]; unfold nmR; rw [if_neg (by omega), if_neg (by omega), if_neg (by omega)]
  rw [long_ok (by omega) n1 n2, h.nd, show 5 + 1 + D.size = 6 + D.size by omega, h.ns]
  rw [show 6 + D.size + 1 + S.size = 7 + D.size + S.size by omega]
  have e1 : strOf (fun i => F (5 + 1 + i)) D.size = D := h.d
  have e2 : strOf (fun i => F (6 + D.size + 1 + i)) S.size = S := by
    rw [show 6 + D.size + 1 = 7 + D.size by omega]; exact h.s
  rw [e1, e2]
theorem front_getP {F : Nat → BitVec 8} {k v : Int} {z : Nat} {ph : Bool} {D S : ByteArray} (h : Front F (firstN k z ph) v D S) (len : Nat) (hD : D.size ≤ 20) (hS : S.size ≤ 20) (hl : 7 + D.size + S.size ≤ len) (kd : Nat)
    (hk : (k = 5 ∧ kd = 0) ∨ (k = 3 ∧ kd = 3) ∨ (1 ≤ z ∧ z ≤ 4 ∧ (k = 0 ∧ kd = 0 ∨ k = 1 ∧ kd = 1 ∨ k = 2 ∧ kd = 2))) :
    getP F len (D.size : Int) = longKind F len kd (numG (fun i => F (1 + i)) 4) D S (7 + D.size + S.size) 0 := by
  have hn : 192 ≤ (F 0).toNat ∧ (F 0).toNat / 16 % 4 = kd := by
    rw [h.f0, BitVec.toNat_ofInt]
    unfold firstN
    rcases hk with ⟨rfl, rfl⟩ | ⟨rfl, rfl⟩ | ⟨h1, h2, ⟨rfl, rfl⟩ | ⟨rfl, rfl⟩ | ⟨rfl, rfl⟩⟩
    · simp
    · simp
    · rw [if_neg (by omega), if_neg (by omega), if_neg (by omega)]; omega
    · rw [if_neg (by omega), if_neg (by omega), if_neg (by omega)]; omega
    · rw [if_neg (by omega), if_neg (by omega), if_neg (by omega)]; omega
  rw [getP_long ⟨by omega, by omega⟩ (by omega) (by omega) (.inl hn.1), h.long len hD hS hl, kind4, hn.2]
/-- A short header. -/
theorem gotS_short {F : Nat → BitVec 8} {N : Int} {z : Nat} {ph : Bool} {D : ByteArray} (h : Sg F 0 (lowS (firstN 4 z ph) 1 ++ D ++ lowS N z)) (len : Nat) (hD : D.size ≤ 20) (hz1 : 1 ≤ z) (hz : z ≤ 4) (hl : 1 + D.size + z ≤ len) :
    getP F len (D.size : Int) = ⟨4, 0, D, ⟨#[]⟩, ⟨#[]⟩, 0, [], 1 + D.size, len, 0⟩ := by
  have h0 := low_one h.left.left
  have h1 := h.left.right
  rw [low_size, Nat.zero_add] at h1
  have hn : 64 ≤ (F 0).toNat ∧ (F 0).toNat < 128 := by
    rw [h0, BitVec.toNat_ofInt]
    unfold firstN
    rw [if_neg (by omega), if_neg (by omega), if_pos rfl]
    cases ph
    · rw [if_neg (by decide)]; omega
    · rw [if_pos rfl]; omega
  unfold getP
  rw [if_neg (by omega), if_neg (by omega), if_neg (fun hh => by have := (bit64 _).1 hh.1; omega), if_pos ((bit128 _).2 hn.2), if_neg (by omega)]
  have e : strOf (fun i => F (1 + i)) (D.size : Int).toNat = D := h1.text (by simp)
  rw [e]
  simp
/-- A list of versions. -/
theorem got_list {F : Nat → BitVec 8} {z : Nat} {ph : Bool} {D S : ByteArray} {G : List Int} (h : Sg F 0 (G.foldl (fun s x => s ++ lowS x 4) (preS 5 0 z ph D S))) (len : Nat) (hD : D.size ≤ 20) (hS : S.size ≤ 20) (hG : ∀ x ∈ G, 0 ≤ x ∧ x < 4294967296)
    (hG0 : G ≠ []) (hG1 : G.length ≤ 16) (hl : len = 7 + D.size + S.size + 4 * G.length) :
    getP F len (D.size : Int) = ⟨5, 0, D, S, ⟨#[]⟩, 0, G, len, len, 0⟩ := by
  have hf := front_of (fours_left G _ h) (by omega) (by omega) hD hS
  have hpos : 0 < G.length := List.length_pos_iff.2 hG0
  rw [front_getP hf len hD hS (by omega) 0 (.inl ⟨rfl, rfl⟩)]
  have hv : numG (fun i => F (1 + i)) 4 = 0 := by have := hf.v4; omega
  rw [hv, lk_v_ok (by omega)]
  have e : vsG F (7 + D.size + S.size) ((len - (7 + D.size + S.size)) / 4) = G := by
    rw [show (len - (7 + D.size + S.size)) / 4 = G.length by omega]
    apply List.ext_getElem?
    intro j
    by_cases hj2 : j < G.length
    · have h1 := fours_at G _ h j hj2
      rw [pre_size, Nat.zero_add] at h1
      have hx := hG G[j] (List.getElem_mem hj2)
      have h2 := low_four h1 hx.1 hx.2
      have h3 : (vsG F (7 + D.size + S.size) G.length)[j]? = some ((numG (fun i => F (7 + D.size + S.size + 4 * j + i)) 4 : Nat) : Int) := by simp [vsG, hj2]
      rw [h3, h2, List.getElem?_eq_getElem hj2]
    · rw [List.getElem?_eq_none (by rw [vsG_len]; omega), List.getElem?_eq_none (by omega)]
  rw [e]
/-- A Retry. -/
theorem got_retry {F : Nat → BitVec 8} {v : Int} {z : Nat} {ph : Bool} {D S : ByteArray} {tf : Nat → BitVec 8} {nt : Nat} (h : Sg F 0 (preS 3 v z ph D S ++ strOf tf nt)) (len : Nat) (hD : D.size ≤ 20) (hS : S.size ≤ 20) (hv0 : 0 < v) (hv1 : v < 4294967296) (hnt : nt ≤ 512)
    (hl : len = 7 + D.size + S.size + nt) : getP F len (D.size : Int) = ⟨3, v, D, S, strOf tf nt, 0, [], len, len, 0⟩ := by
  have hf := front_of h.left (by omega) hv1 hD hS
  rw [front_getP hf len hD hS (by omega) 3 (.inr (.inl ⟨rfl, rfl⟩))]
  have hv := hf.v4
  rw [lk_3_ok (by omega) (by omega) (by omega), hv]
  have h1 := h.right
  rw [pre_size, Nat.zero_add] at h1
  have e : strOf (fun i => F (7 + D.size + S.size + i)) (len - (7 + D.size + S.size)) = strOf tf nt := h1.text (by rw [strOf_size]; omega)
  rw [e]
theorem len_read {F : Nat → BitVec 8} {o : Nat} {l : Int} (h : Sg F o (lenS l)) (h0 : 0 ≤ l) (h1 : l ≤ 16383) (len : Nat) (hl : 2 ≤ len) :
    isNum (fun i => F (o + i)) len = true ∧ getV (fun i => F (o + i)) len = l.toNat ∧ getK (fun i => F (o + i)) len = 2 := by
  have hx : (BitVec.ofInt 64 l).toNat = l.toNat := by rw [BitVec.toNat_ofInt]; omega
  have := num_at (fun i => F (o + i)) len (BitVec.ofInt 64 l) 1 (by omega) (by rw [hx]; simp; omega) (by simpa using hl) (fun i hi => h.at i (by simpa using hi))
  rw [hx] at this
  simpa using this
/-- Behind the names (or the token): the length. -/
theorem got_cnt {F : Nat → BitVec 8} {o : Nat} {l N : Int} {z : Nat} (h : Sg F o (lenS l ++ lowS N z)) (h0 : 0 ≤ l) (h1 : l ≤ 16383) (len V : Nat) (k : Int) (D S T : ByteArray) (hl : o + 2 + z ≤ len) :
    cnt F len k V D S T o 0 = if l.toNat ≤ len - (o + 2) then ⟨k, V, D, S, T, l, [], o + 2, o + 2 + l.toNat, 0⟩ else Got.no 3 := by
  obtain ⟨a1, a2, a3⟩ := len_read h.left h0 h1 (len - o) (by omega)
  by_cases hq : l.toNat ≤ len - (o + 2)
  · rw [if_pos hq, cnt_ok a1 (by rw [a2]; omega) (by rw [a2, a3]; exact hq), a2, a3, show ((l.toNat : Nat) : Int) = l by omega]
  · rw [if_neg hq, cnt_few a1 (by rw [a2]; omega) (by rw [a2, a3]; omega)]
theorem got_hand {F : Nat → BitVec 8} {k v l N : Int} {z : Nat} {ph : Bool} {D S : ByteArray} (h : Sg F 0 (preS k v z ph D S ++ lenS l ++ lowS N z)) (hk : k = 1 ∨ k = 2) (len : Nat) (hD : D.size ≤ 20) (hS : S.size ≤ 20) (hv0 : 0 < v) (hv1 : v < 4294967296)
    (h0 : 0 ≤ l) (h1 : l ≤ 16383) (hz1 : 1 ≤ z) (hz : z ≤ 4) (hl : 9 + D.size + S.size + z ≤ len) :
    getP F len (D.size : Int) = if l.toNat ≤ len - (9 + D.size + S.size) then ⟨k, v, D, S, ⟨#[]⟩, l, [], 9 + D.size + S.size, 9 + D.size + S.size + l.toNat, 0⟩ else Got.no 3 := by
  have hf := front_of h.left.left (by omega) hv1 hD hS
  have h2 : Sg F (7 + D.size + S.size) (lenS l ++ lowS N z) := fun i hi => by
    have e1 := h.left.right
    have e2 := h.right
    rw [pre_size, Nat.zero_add] at e1
    rw [size_append, pre_size, Nat.zero_add] at e2
    by_cases hlt : i < (lenS l).size
    · rw [bx_left _ _ _ hlt]; exact e1 i hlt
    · obtain ⟨j, rfl⟩ : ∃ j, i = (lenS l).size + j := ⟨i - (lenS l).size, by omega⟩
      rw [bx_right, ← Nat.add_assoc]
      exact e2 j (by rw [size_append] at hi; omega)
  have hv := hf.v4
  have hV : numG (fun i => F (1 + i)) 4 ≠ 0 := by omega
  have e9 : 7 + D.size + S.size + 2 = 9 + D.size + S.size := by omega
  rcases hk with rfl | rfl
  · rw [front_getP hf len hD hS (by omega) 1 (.inr (.inr ⟨hz1, hz, .inr (.inl ⟨rfl, rfl⟩)⟩)), lk_other hV (by omega) (by omega), got_cnt h2 h0 h1 len _ _ D S _ (by omega), hv, e9]; rfl
  · rw [front_getP hf len hD hS (by omega) 2 (.inr (.inr ⟨hz1, hz, .inr (.inr ⟨rfl, rfl⟩)⟩)), lk_other hV (by omega) (by omega), got_cnt h2 h0 h1 len _ _ D S _ (by omega), hv, e9]; rfl
end Go.Proofs.YtjbpjoondmcnlaaDoor
namespace Go.Proofs.YtjbpjoondmcnlaaDoor
open Go Go.RowKit Go.BigFrame
set_option linter.unusedSimpArgs false
set_option linter.unusedVariables false
theorem Sg.join {F : Nat → BitVec 8} {o : Nat} {A B : ByteArray} (h1 : Sg F o A) (h2 : Sg F (o + A.size) B) : Sg F o (A ++ B) := fun i hi => by
  by_cases hlt : i < A.size
  · rw [bx_left _ _ _ hlt]; exact h1 i hlt
  · obtain ⟨j, rfl⟩ : ∃ j, i = A.size + j := ⟨i - A.size, by omega⟩
    rw [bx_right, ← Nat.add_assoc]
    exact h2 j (by rw [size_append] at hi; omega)
theorem tok_size (nt : Nat) (tf : Nat → BitVec 8) : (strOf (textB nt tf) (textK nt + nt)).size = textK nt + nt := strOf_size _ _
theorem lenS_size (l : Int) : (lenS l).size = 2 := strOf_size _ _
theorem got_init {F : Nat → BitVec 8} {v l N : Int} {z : Nat} {ph : Bool} {D S : ByteArray} {tf : Nat → BitVec 8} {nt : Nat} (h : Sg F 0 (preS 0 v z ph D S ++ strOf (textB nt tf) (textK nt + nt) ++ lenS l ++ lowS N z)) (len : Nat) (hD : D.size ≤ 20) (hS : S.size ≤ 20)
    (hv0 : 0 < v) (hv1 : v < 4294967296) (h0 : 0 ≤ l) (h1 : l ≤ 16383) (hz1 : 1 ≤ z) (hz : z ≤ 4) (hnt : nt ≤ 512) (hl : 9 + D.size + S.size + (textK nt + nt) + z ≤ len) :
    getP F len (D.size : Int) = if l.toNat ≤ len - (9 + D.size + S.size + (textK nt + nt)) then ⟨0, v, D, S, strOf tf nt, l, [], 9 + D.size + S.size + (textK nt + nt), 9 + D.size + S.size + (textK nt + nt) + l.toNat, 0⟩ else Got.no 3 := by
  have hf := front_of h.left.left.left (by omega) hv1 hD hS
  have ht := h.left.left.right
  have e1 := h.left.right
  have e2 := h.right
  rw [pre_size, Nat.zero_add] at ht
  simp only [size_append, pre_size, tok_size, lenS_size, Nat.zero_add] at e1 e2
  have h2 : Sg F (7 + D.size + S.size + (textK nt + nt)) (lenS l ++ lowS N z) := e1.join (by rw [lenS_size]; exact e2)
  have hv := hf.v4
  have hV : numG (fun i => F (1 + i)) 4 ≠ 0 := by omega
  have hx : (BitVec.ofNat 64 nt).toNat = nt := by rw [BitVec.toNat_ofNat]; omega
  have hk : 0 < textK nt := Nat.two_pow_pos _
  have hnum := num_at (fun i => F (7 + D.size + S.size + i)) (len - (7 + D.size + S.size)) (BitVec.ofNat 64 nt) (least (BitVec.ofNat 64 nt)) (least_lt _) (least_fits _ (by rw [hx]; omega)) (by show textK nt ≤ _; omega) (fun i hi => by
    have := ht.at i (by show i < textK nt + nt; have : i < textK nt := hi; omega)
    rw [this]
    show joinb _ (textK nt) tf i = _
    unfold joinb
    rw [if_pos (show i < textK nt from hi)])
  obtain ⟨a1, a2, a3⟩ := hnum
  rw [hx] at a2
  have a3 : getK (fun i => F (7 + D.size + S.size + i)) (len - (7 + D.size + S.size)) = textK nt := a3
  rw [front_getP hf len hD hS (by omega) 0 (.inr (.inr ⟨hz1, hz, .inl ⟨rfl, rfl⟩⟩)), lk_0_ok hV a1 (by rw [a2]; exact hnt) (by rw [a2, a3]; omega), a2, a3]
  have et : strOf (fun i => F (7 + D.size + S.size + textK nt + i)) nt = strOf tf nt := (strOf_eq _ _ nt).2 (fun i hi => by
    have := ht.at (textK nt + i) (by omega)
    rw [Nat.add_assoc, this]
    show joinb _ (textK nt) tf (textK nt + i) = _
    unfold joinb
    rw [if_neg (by omega), show textK nt + i - textK nt = i by omega])
  have e9 : 7 + D.size + S.size + (textK nt + nt) + 2 = 9 + D.size + S.size + (textK nt + nt) := by omega
  rw [et, show 7 + D.size + S.size + textK nt + nt = 7 + D.size + S.size + (textK nt + nt) by omega, got_cnt h2 h0 h1 len _ _ D S _ (by omega), hv, e9]
/-- All kinds: what Get answers of what Put made, with m bytes behind it. -/
def backG (k v : Int) (D S : ByteArray) (tf : Nat → BitVec 8) (nt : Nat) (l : Int) (z : Nat) (G : List Int) (n m : Nat) : Got :=
  if k < 3 then (if l ≤ (z : Int) + m then ⟨k, v, D, S, strOf tf nt, l, G, n - z, n - z + l.toNat, 0⟩ else Got.no 3)
  else if k = 4 then ⟨k, v, D, S, strOf tf nt, l, G, n - z, n + m, 0⟩
  else ⟨k, v, D, S, strOf tf nt, l, G, n, n, 0⟩
theorem got_back {F : Nat → BitVec 8} (k v l N : Int) (z : Nat) (D S : ByteArray) (tf : Nat → BitVec 8) (nt : Nat) (ph : Bool) (G : List Int) (hin : inB G D.size S.size nt v l N (z : Int)) (hf : inF k v l N (z : Int) S.size nt G.length ph)
    (n m : Nat) (hn : (hputS k v D S tf nt l N z ph G).size = n) (hm : k = 3 ∨ k = 5 → m = 0) (h : Sg F 0 (hputS k v D S tf nt l N z ph G)) : getP F (n + m) (D.size : Int) = backG k v D S tf nt l z G n m := by
  obtain ⟨hG, hG1, hD, hS, hnt, hw, ⟨h0, h1⟩, hN, hz⟩ := hin
  have hw : 0 ≤ v ∧ v < 4294967296 := by unfold word32 at hw; omega
  have hGw : ∀ x ∈ G, 0 ≤ x ∧ x < 4294967296 := fun x hx => by have := hG x hx; unfold word32 at this; omega
  unfold backG
  rcases hf with ⟨rfl, ⟨hv, rfl, hg⟩, hz0⟩ | ⟨hk, ⟨hv, rfl, hg⟩, hz0, rfl⟩ | ⟨rfl, ⟨hv, rfl, hg⟩, rfl, rfl, hz0⟩ | ⟨rfl, hz0, rfl, rfl, hs, rfl, hg⟩ | ⟨rfl, ⟨rfl, rfl, hz0⟩, rfl, rfl, rfl, hg⟩
  · obtain rfl : G = [] := List.length_eq_zero_iff.1 hg
    rw [if_pos (by omega)]
    unfold hputS at h hn
    rw [if_neg (by omega), if_neg (by omega), if_neg (by omega), if_pos rfl] at h hn
    simp only [size_append, pre_size, tok_size, lenS_size, low_size] at hn
    rw [got_init h (n + m) hD hS (by omega) hw.2 h0 h1 (by omega) (by omega) hnt (by omega)]
    by_cases hq : l ≤ (z : Int) + m
    · rw [if_pos hq, if_pos (by omega), show 9 + D.size + S.size + (textK nt + nt) = n - z by omega]
    · rw [if_neg hq, if_neg (by omega)]
  · obtain rfl : G = [] := List.length_eq_zero_iff.1 hg
    have hk0 : k ≠ 0 ∧ k ≠ 3 ∧ k ≠ 4 ∧ k ≠ 5 ∧ k < 3 := by omega
    rw [if_pos hk0.2.2.2.2]
    unfold hputS at h hn
    rw [if_neg hk0.2.2.1, if_neg hk0.2.1, if_neg hk0.2.2.2.1, if_neg hk0.1] at h hn
    simp only [size_append, pre_size, lenS_size, low_size] at hn
    rw [got_hand h hk (n + m) hD hS (by omega) hw.2 h0 h1 (by omega) (by omega) (by omega)]
    have et : strOf tf 0 = ⟨#[]⟩ := rfl
    rw [et]
    by_cases hq : l ≤ (z : Int) + m
    · rw [if_pos hq, if_pos (by omega), show 9 + D.size + S.size = n - z by omega]
    · rw [if_neg hq, if_neg (by omega)]
  · obtain rfl : G = [] := List.length_eq_zero_iff.1 hg
    rw [if_neg (by omega), if_neg (by omega)]
    unfold hputS at h hn
    rw [if_neg (by omega), if_pos rfl] at h hn
    simp only [size_append, pre_size, strOf_size] at hn
    have := hm (.inl rfl)
    subst this
    rw [got_retry h (n + 0) hD hS (by omega) hw.2 hnt (by omega)]
    rfl
  · obtain rfl : G = [] := List.length_eq_zero_iff.1 hg
    rw [if_neg (by omega), if_pos rfl]
    unfold hputS at h hn
    rw [if_pos rfl] at h hn
    simp only [size_append, low_size] at hn
    rw [gotS_short h (n + m) hD (by omega) (by omega) (by omega), show 1 + D.size = n - z by omega]
    have eS : S = ⟨#[]⟩ := by
      have := bx_str S
      rw [hs] at this
      exact this.symm
    rw [eS]
    rfl
  · have hG0 : G ≠ [] := fun e => hg (by rw [e]; rfl)
    rw [if_neg (by omega), if_neg (by omega)]
    unfold hputS at h hn
    rw [if_neg (by omega), if_neg (by omega), if_pos rfl] at h hn
    rw [fours_size, pre_size] at hn
    have := hm (.inr rfl)
    subst this
    rw [got_list h (n + 0) hD hS hGw hG0 hG1 (by omega)]
    rfl
end Go.Proofs.YtjbpjoondmcnlaaDoor
namespace Go.Proofs.YtjbpjoondmcnlaaDoor
open Go Go.RowKit Go.BigFrame
set_option linter.unusedSimpArgs false
set_option linter.unusedVariables false
set_option maxRecDepth 100000
theorem run_upto (w : World) (a : Option Addr) (k m c : Nat) (K : Int) (hK : K = (k : Int)) (hk : k ≤ m) (hm : m ≤ c) : (Instr.sliceAt 26 (.slice a m c) none (some (.int .i64 K)) none).run Tryd.prog w = .ok (.slice a k c) w := by
  subst hK
  have hkc : k ≤ c := Nat.le_trans hk hm
  have hu : Tryd.prog.underlying 26 = some (.slice (Tryd.prog.elem 26)) := by kernel_rfl
  rw [run_sliceAt_slice (t := 26) (h := hu), run_slice_any (t := 26) (ht := hu)]
  have h0 : (0 : Int) ≤ (k : Int) := by omega
  have h1 : (k : Int) ≤ (c : Int) := by omega
  simp [Instr.sliceBounds, go_sem, h0, h1]
theorem bytesIn_upto {w : World} {a : Option Addr} {k m : Nat} {p : Nat → BitVec 8} (h : BytesIn w a m p) (hk : k ≤ m) : BytesIn w a k p := by
  refine ⟨Nat.le_trans hk h.1, ?_⟩
  rcases h.2 with h0 | ⟨b, o, e, hb, hc⟩
  · exact .inl (by omega)
  · exact .inr ⟨b, o, e, hb, fun i hi => hc i (by omega)⟩
theorem bytesIn_none (w : World) (p : Nat → BitVec 8) : BytesIn w none 0 p := ⟨by unfold maxLen; omega, .inl rfl⟩
/-- A slice of one's own as bytes that lie somewhere. -/
theorem Own.asIn {B n : Nat} {v : Value} {f : Nat → BitVec 8} {w : World} (h : Own B v n f w) : ∃ a c, v = .slice a n c ∧ n ≤ c ∧ c ≤ maxLen ∧ BytesIn w a n f := by
  by_cases hn : 0 < n
  · obtain ⟨g, c, rfl, hc, hm, hb⟩ := h.bytesIn hn
    exact ⟨_, c, rfl, hc, hm, hb⟩
  · obtain rfl : n = 0 := by omega
    rcases h.row.2 with ⟨rfl, _⟩ | ⟨g, cap, cur, rfl, hB, hg, hnc, hcm, hcs, ht⟩
    · exact ⟨none, 0, rfl, Nat.le_refl _, by unfold maxLen; omega, bytesIn_none w f⟩
    · exact ⟨_, cap, rfl, hnc, hcm, by unfold maxLen; omega, .inl rfl⟩
theorem OwnS.own {B : Nat} {v : Value} {S : ByteArray} {w : World} (h : OwnS B v S w) : Own B v S.size (bx S) w := by
  obtain ⟨n, f, ho, rfl⟩ := h
  rw [strOf_size]
  exact ho.congr (fun i hi => (bx_of f n i hi).symm)
theorem hputS_small {k v l N : Int} {z : Nat} {D S : ByteArray} {tf : Nat → BitVec 8} {nt : Nat} {ph : Bool} {G : List Int} (hin : inB G D.size S.size nt v l N (z : Int)) (hf : inF k v l N (z : Int) S.size nt G.length ph) :
    z < (hputS k v D S tf nt l N z ph G).size ∧ (hputS k v D S tf nt l N z ph G).size ≤ 3000 := by
  obtain ⟨hG, hG1, hD, hS, hnt, hw, ⟨h0, h1⟩, hN, hz⟩ := hin
  have htk := textK_pos nt
  unfold hputS
  split
  · simp only [size_append, low_size]; omega
  · split
    · simp only [size_append, pre_size, strOf_size]; rcases hf with h | h | h | h | h <;> omega
    · split
      · rw [fours_size, pre_size]; rcases hf with h | h | h | h | h <;> omega
      · split
        · simp only [size_append, pre_size, tok_size, lenS_size, low_size]; omega
        · simp only [size_append, pre_size, lenS_size, low_size]; omega
theorem put_in (k v l N : Int) (z : Nat) (D S : ByteArray) (tf : Nat → BitVec 8) (nt : Nat) (ph : Bool) (G : List Int) (hin : inB G D.size S.size nt v l N (z : Int)) (hf : inF k v l N (z : Int) S.size nt G.length ph) (X : ByteArray) (n : Nat)
    (hX : hputS k v D S tf nt l N z ph G = X) (hn : X.size = n) (w : World) (L : Value) (hL : IntsIn w L G) (tab : Tab w) :
    Calls Tryd.prog 33 #[.agg (hdC k v D S (strOf tf nt) l N (z : Int) ph L)] w fun e w' => ∃ a c, e = .returned (.tuple #[.slice a n c, .int .i64 0]) ∧ BytesIn w' a n (bx X) ∧ n ≤ c ∧ c ≤ maxLen ∧ Below w.heap.size w w' := by
  obtain ⟨a, c, rfl, _⟩ := hL.at_
  refine (put_ok k v l N z D S tf nt ph a c G w hL hin hf tab).mono ?_
  rintro e w' ⟨b, rfl, ho, hb⟩
  rw [hX] at ho
  obtain ⟨a', c', rfl, hc, hm, hi⟩ := ho.own.asIn
  rw [hn] at hi hc
  exact ⟨a', c', by rw [hn], hi, hc, hm, hb⟩
/-- Get of what Put made, with m bytes behind. -/
theorem get_back (k v l N : Int) (z : Nat) (D S : ByteArray) (tf : Nat → BitVec 8) (nt : Nat) (ph : Bool) (G : List Int) (hin : inB G D.size S.size nt v l N (z : Int)) (hf : inF k v l N (z : Int) S.size nt G.length ph) (X : ByteArray) (n m : Nat)
    (hX : hputS k v D S tf nt l N z ph G = X) (hn : X.size = n) (hm : k = 3 ∨ k = 5 → m = 0) (g : Got) (hg : backG k v D S tf nt l z G n m = g) (F : Nat → BitVec 8) (hF : ∀ i, i < n → F i = bx X i) (a : Option Addr) (c : Nat) (w : World) (hB : BytesIn w a (n + m) F) (hc : n + m ≤ c) (hcm : c ≤ maxLen) :
    Calls Tryd.prog 37 #[.slice a (n + m) c, .int .i64 (D.size : Int)] w (GotPost g w) := by
  have h := get_packet F a (n + m) c (D.size : Int) w hB hc hcm
  rw [got_back k v l N z D S tf nt ph G hin hf n m (by rw [hX, hn]) hm (by rw [hX]; intro i hi; rw [Nat.zero_add]; exact hF i (hn ▸ hi)), hg] at h
  exact h
theorem load_rh {w : World} {H : Nat} {c : Array Value} {k v : Int} {D S T : ByteArray} {l N z : Int} {ph : Bool} {L : Value} (e : c = hdC k v D S T l N z ph L) (h : w.heap[H]? = some (.cells c 63 (0, 0))) : (Instr.loadAt 63 (.pointer (some ⟨H, 0, none⟩))).run Tryd.prog w = .ok (.agg (hdC k v D S T l N z ph L)) w := by
  subst e
  have h1 := run_loadAt_mid (P := Tryd.prog) w H 0 63 (hdC k v D S T l N z ph L).toList _ (fun j u hj => by
    rw [Nat.zero_add, cell_of_row _ _ _ _ _ _ h]
    simpa using hj) Tryd.underlying63 rfl (by kernel_rfl)
  simpa using h1
end Go.Proofs.YtjbpjoondmcnlaaDoor
namespace Go.Proofs.YtjbpjoondmcnlaaDoor
open Go Go.RowKit Go.BigFrame
set_option linter.unusedSimpArgs false
set_option linter.unusedVariables false
set_option maxRecDepth 100000
set_option maxHeartbeats 16000000 in
theorem back_A (k v l N : Int) (z : Nat) (D S : ByteArray) (tf : Nat → BitVec 8) (nt : Nat) (ph : Bool) (a : Option Addr) (c : Nat) (G : List Int) (w : World) (hL : IntsIn w (.slice a G.length c) G) (hG : G.length ≤ 20000000000000)
    (ra : Option Addr) (rl rc : Nat) (rf : Nat → BitVec 8) (hR : BytesIn w ra rl rf) (hrc : rl ≤ rc) (hrm : rc ≤ maxLen) (tab : Tab w)
    (hin : inB G D.size S.size nt v l N (z : Int)) (hf : inF k v l N (z : Int) S.size nt G.length ph)
    (hk : k < 3) (hk012 : k = 0 ∨ k = 1 ∨ k = 2) (hl : l ≤ (z : Int) + (min rl 2000 : Nat)) :
    Calls Tryd.prog 11 #[.agg (hdC k v D S (strOf tf nt) l N (z : Int) ph (.slice a G.length c)), .slice ra rl rc] w fun e w' => e = .returned (.bool true) ∧ Below w.heap.size w w' := by
  have hk3 : ¬ (3 : Int) ≤ k := by omega
  obtain ⟨X, hX⟩ : ∃ X, hputS k v D S tf nt l N z ph G = X := ⟨_, rfl⟩
  obtain ⟨n, hn⟩ : ∃ n, X.size = n := ⟨_, rfl⟩
  have hn0 : z < n ∧ n ≤ 3000 := by have h := hputS_small (tf := tf) hin hf; rw [hX, hn] at h; exact h
  have hlb := hin.2.2.2.2.2.2.1
  have hzb := hin.2.2.2.2.2.2.2.2
  obtain ⟨hzn, hn3⟩ := hn0
  obtain ⟨rm, hrm'⟩ : ∃ rm, min rl 2000 = rm := ⟨_, rfl⟩
  have hrm2 : rm ≤ 2000 := by omega
  rw [hrm'] at hl
  have su := Lib.hid (fun w' => run_upto w' ra rm rl rc (if (2000 : Int) < (rl : Int) then (2000 : Int) else (rl : Int)) (by split <;> omega) (by omega) hrc)
  have HR := Lib.hid (bytesIn_upto (k := rm) hR (by omega))
  have PPH := Lib.hid (fun (w' : World) (L' : Value) (hL' : IntsIn w' L' G) (t : Tab w') => put_in k v l N z D S tf nt ph G hin hf X n hX hn w' L' hL' t)
  have GET := Lib.hid (fun (F : Nat → BitVec 8) (hF : ∀ i, i < n → F i = bx X i) (a' : Option Addr) (c' : Nat) (w' : World) (hB : BytesIn w' a' (n + rm) F) (hc : n + rm ≤ c') (hcm : c' ≤ maxLen) => get_back k v l N z D S tf nt ph G hin hf X n rm hX hn (by omega) ⟨k, v, D, S, strOf tf nt, l, G, n - z, n - z + l.toNat, 0⟩ (by unfold backG; rw [if_pos hk, if_pos (by omega)]) F hF a' c' w' hB hc hcm)
  have TO := Lib.hid (fun (w' : World) (h : IntsIn w' (.slice a G.length c) G) => to_any k v l N z D S (strOf tf nt) ph a c G w' h hG)
  have SY := Lib.hid (fun (a1 a2 : Option Addr) (c1 c2 : Nat) (w' : World) (h1 : IntsIn w' (.slice a1 G.length c1) G) (h2 : IntsIn w' (.slice a2 G.length c2) G) => same_yes k v l 0 0 D S (strOf tf nt) false a1 a2 c1 c2 G w' h1 h2)
  have FA := Lib.hid (fun (aL : Option Addr) (cL : Nat) (w' : World) => from_any k v l 0 0 D S (strOf tf nt) false aL G.length cL w')
  have HL := Lib.hid hL
  have TB := Lib.hid tab
  generalize strOf tf nt = T at *
  have LR := Lib.hid (fun (cc : Array Value) (q : Nat) (w' : World) (e : cc = hdC k v D S T l 0 0 false (.slice a G.length c)) (h : w'.heap[q]? = some (.cells cc 63 (0, 0))) => load_rh e h)
  have hcD : n + rm ≤ 5000 := by omega
  have h20' : (2000 : Int) < (rl : Int) ∧ rm = 2000 ∨ ¬ (2000 : Int) < (rl : Int) ∧ rm = rl := by omega
  clear hL tab hR hin hf hrm' hrm hX hn
  unfold hdC at PPH TO SY FA LR ⊢
  obtain ⟨h20, rfl⟩ | ⟨h20, rfl⟩ := h20'
  all_goals
    go_enter Tryd.func11, Tryd.ntmps11
    have row := heap_alloc_last w (.cells #[.int .i64 k, .int .i64 v, .string D, .string S, .string T, .int .i64 l, .int .i64 N, .int .i64 (z : Int), .bool ph, .slice a G.length c] 63)
    have bel := (Below.refl w.heap.size w).alloc (Nat.le_refl _) (.cells #[.int .i64 k, .int .i64 v, .string D, .string S, .string T, .int .i64 l, .int .i64 N, .int .i64 (z : Int), .bool ph, .slice a G.length c] 63)
    go_upto_region 1 with (fail)
    generalize w.alloc _ = wa at *
    have BEL := Lib.hid bel
    have QL := Lib.hid (lt_row row)
    have CX := Lib.hid (fun (w' : World) (hb : Below wa.heap.size wa w') => cells10 ((hb.block _ (lt_row row)).trans row))
    have RX := Lib.hid (fun (w' : World) (hb : Below wa.heap.size wa w') => (hb.block _ (lt_row row)).trans row)
    clear row bel
    obtain ⟨c0, c1, c2, c3, c4, c5, c6, c7, c8, c9⟩ := CX.out wa (Below.refl _ _)
    go_wp2_with fail
    with_reducible refine (TO.out wa (HL.out.later BEL.out)).mono ?_
    rintro e w2 ⟨L', rfl, hL2, hb2⟩
    have H2 := Lib.hid hb2
    have L2 := Lib.hid hL2
    clear hb2 hL2 c0 c1 c2 c3 c4 c5 c6 c7 c8 c9 TO
    go_wp2_with fail
    with_reducible refine (PPH.out w2 L' L2.out (TB.out.later (BEL.out.trans (H2.out.mono BEL.out.size)))).mono ?_
    rintro e w3 ⟨ab, cb, rfl, hba, hcb, hcbm, hb3⟩
    have H3 := Lib.hid (H2.out.trans (hb3.mono H2.out.size))
    have BA := Lib.hid hba
    clear hba hb3 PPH L2 TB
    go_wp2_with fail
    with_reducible refine (heads_any w3).mono ?_
    rintro e w4 ⟨rfl, hb4⟩
    have H4 := Lib.hid (H3.out.trans (hb4.mono H3.out.size))
    have BA4 := Lib.hid (bytesIn_later BA.out hb4)
    have hsu := su.out
    clear hb4 BA H2 H3
    obtain ⟨c0, c1, c2, c3, c4, c5, c6, c7, c8, c9⟩ := CX.out w4 H4.out
    clear c1 c2 c3 c4 c5 c6 c7 c8 c9
    go_upto_region 7 with (fail)
    clear hsu c0 su hrc
    have E1 := Lib.hid (Own.empty (B := w4.heap.size) (bx X) w4 (Nat.le_refl _))
    have hal := (Below.refl w4.heap.size w4).alloc (Nat.le_refl _) (.cells #[] 5)
    have AL := Lib.hid hal
    have S1 := Lib.hid (src_in (bytesIn_later BA4.out hal) cb)
    have RS := Lib.hid (fun (w' : World) (h : Below w4.heap.size w4 w') => src_in (bytesIn_later HR.out (BEL.out.trans ((H4.out.trans (h.mono H4.out.size)).mono BEL.out.size))) rc)
    clear hal
    go_upto_region 8 with (first
      | (at_builtin; refine wpList_append_bytes (o := ⟨some 44, _, _, _, _, _⟩) rfl _ _ 26 rfl rfl rfl E1.out S1.out (by omega) ?_; intro v5 w5 ho5 hg5; rw [Nat.zero_add] at ho5; have O5 := Lib.hid ho5; have G5 := Lib.hid (AL.out.trans (hg5.below E1.out)); clear ho5 hg5)
      | (at_builtin; refine wpList_append_bytes (o := ⟨some 46, _, _, _, _, _⟩) rfl _ _ 26 rfl rfl rfl O5.out (RS.out _ G5.out) (by omega) ?_; intro v6 w6 ho6 hg6; have O6 := Lib.hid ho6; have G6 := Lib.hid (G5.out.trans (hg6.below O5.out)); clear ho6 hg6)
      | fail)
    obtain ⟨a6, k6, rfl, hc6, hcm6, hb6⟩ := O6.out.asIn
    have B6 := Lib.hid hb6
    have H6 := Lib.hid (H4.out.trans (G6.out.mono H4.out.size))
    have GT := Lib.hid (GET.out (joinb (joinb (bx X) 0 (bx X)) n rf) (fun i hi => by unfold joinb; rw [if_pos (by omega), if_neg (by omega), Nat.sub_zero]) a6 k6 w6 B6.out hc6 hcm6)
    clear hb6 O5 O6 G5 G6 E1 S1 RS AL BA4 H4 HR GET
    obtain ⟨c0, c1, c2, c3, c4, c5, c6, c7, c8, c9⟩ := CX.out w6 H6.out
    clear c0 c1 c3 c4 c5 c6 c7 c8 c9
    go_upto_region 8 with (fail)
    go_wp2_with fail
    with_reducible refine GT.out.mono ?_
    rintro e w7 ⟨aL, cL, rfl, _, hI7, hb7⟩
    have I7 := Lib.hid hI7
    have H7 := Lib.hid (H6.out.trans (hb7.mono H6.out.size))
    clear hI7 hb7 c2
    dsimp only [Got.header]
    unfold hdC
    rw [show ((n - z + l.toNat : Nat) : Int) = (n : Int) - (z : Int) + l by omega, show ((n - z : Nat) : Int) = (n : Int) - (z : Int) by omega]
    iterate 16 go_step
    refine wpList_alloc_row rfl 66 rfl _ hd_zero ?_
    simp only [Act.put, List.setIfInBounds_toArray, List.set_cons_succ, List.set_cons_zero]
    refine wpList_store_row rfl 66 (.tmp 8) (.tmp 53) rfl w7.heap.size 66 _ (hdC k v D S T l 0 0 false (.slice aL G.length cL)) rfl rfl (heap_alloc_last _ _) rfl (by kernel_rfl) (hdC_one' _ _ _ _ _ _ _ _ _ _ _ _) ?_
    intro w8 rs
    simp only [Act.put, List.setIfInBounds_toArray, List.set_cons_succ, List.set_cons_zero]
    have R8 := Lib.hid rs.row
    have I8 := Lib.hid (I7.out.later (((Below.refl w7.heap.size w7).alloc (Nat.le_refl _) _).trans (rs.below w7.heap.size (Nat.le_refl _))))
    have H8 := Lib.hid (H7.out.trans ((((Below.refl w7.heap.size w7).alloc (Nat.le_refl _) _).trans (rs.below w7.heap.size (Nat.le_refl _))).mono H7.out.size))
    clear rs
    clear GT I7 B6 H6 H7
    have Q8 := lt_row R8.out
    obtain ⟨c0, c1, c2, c3, c4, c5, c6, c7, c8, c9⟩ := CX.out w8 H8.out
    go_upto_region 11 with (fail)
    iterate 4 go_step
    refine wpList_alloc_row rfl 63 rfl _ refhd_zero ?_
    simp only [Act.put, List.setIfInBounds_toArray, List.set_cons_succ, List.set_cons_zero]
    refine wpList_store_row rfl 63 (.tmp 11) (.tmp 72) rfl w8.heap.size 63 _ (hdC k v D S T l N (z : Int) ph (.slice a G.length c)) rfl rfl (heap_alloc_last _ _) rfl (by kernel_rfl) (hdC_one' _ _ _ _ _ _ _ _ _ _ _ _) ?_
    intro w9 rs
    simp only [Act.put, List.setIfInBounds_toArray, List.set_cons_succ, List.set_cons_zero]
    have R9 := Lib.hid rs.row
    have G9 := Lib.hid (((Below.refl w8.heap.size w8).alloc (Nat.le_refl _) _).trans (rs.below w8.heap.size (Nat.le_refl _)))
    clear rs c0 c1 c2 c3 c4 c5 c6 c7 c8 c9
    have r9 := R9.out
    unfold hdC at r9
    obtain ⟨c0, c1, c2, c3, c4, c5, c6, c7, c8, c9⟩ := cells10 r9
    have f6 : w9.frozen? ⟨w8.heap.size, 6, none⟩ = false := frozen_of_row _ _ _ _ _ r9
    have f7 : w9.frozen? ⟨w8.heap.size, 7, none⟩ = false := frozen_of_row _ _ _ _ _ r9
    have f8 : w9.frozen? ⟨w8.heap.size, 8, none⟩ = false := frozen_of_row _ _ _ _ _ r9
    clear c0 c1 c2 c3 c4 c5 c9 r9
    go_upto_region 13 with (fail)
    clear c6 c7 c8 f6 f7 f8
    have s6 := rowSet_cell w9 w8.heap.size 6 _ _ (.int .i64 0) R9.out
    have s7 := rowSet_cell _ w8.heap.size 7 _ _ (.int .i64 0) s6.row
    have s8 := rowSet_cell _ w8.heap.size 8 _ _ (.bool false) s7.row
    have R10 := Lib.hid s8.row
    have G10 := Lib.hid (((G9.out.trans (s6.below _ (Nat.le_refl _))).trans (s7.below _ (Nat.le_refl _))).trans (s8.below _ (Nat.le_refl _)))
    clear s6 s7 s8 R9 G9
    generalize World.setCell _ _ _ = w10 at *
    have H10 := Lib.hid (H8.out.trans (G10.out.mono H8.out.size))
    have R8b := Lib.hid ((G10.out.block _ Q8).trans R8.out)
    have I10 := Lib.hid (I8.out.later G10.out)
    have HL10 := Lib.hid (HL.out.later (BEL.out.trans (H10.out.mono BEL.out.size)))
    have q8 := lt_row R8b.out
    have q10 := lt_row R10.out
    clear R8 I8 H8 HL G10 Q8
    refine region_class1 8 (fun w' => Below w10.heap.size w10 w') mixedOrders (by kernel_rfl) (Below.refl _ _).drew rfl ?_
    refine wpQuiet_take (by rfl) (fun K hK => ⟨.int .i64 0, fun w2' hw2 => ?_, hK _ ?_⟩)
    · clear hw2; go_simp
    clear hK K
    simp only [Act.put, List.setIfInBounds_toArray, List.set_cons_succ, List.set_cons_zero]
    refine wpQuiet_take (by rfl) (fun K hK => ⟨.bool false, fun w2' hw2 => ?_, hK _ ?_⟩)
    · clear hw2; go_simp
    clear hK K
    simp only [Act.put, List.setIfInBounds_toArray, List.set_cons_succ, List.set_cons_zero]
    refine wpQuiet_take (by rfl) (fun K hK => ⟨.bool false, fun w2' hw2 => ?_, hK _ ?_⟩)
    · clear hw2; go_simp
    clear hK K
    simp only [Act.put, List.setIfInBounds_toArray, List.set_cons_succ, List.set_cons_zero]
    refine wpQuiet_take (by rfl) (fun K hK => ⟨.agg #[.int .i64 k, .int .i64 v, .string D, .string S, .string T, .int .i64 l, .int .i64 0, .int .i64 0, .bool false, .slice aL G.length cL], fun w2' hw2 => ?_, hK _ ?_⟩)
    · obtain ⟨d0, d1, d2, d3, d4, d5, d6, d7, d8, d9⟩ := cells10 ((hw2.block _ q8).trans R8b.out)
      clear hw2
      go_simp
    clear hK K
    simp only [Act.put, List.setIfInBounds_toArray, List.set_cons_succ, List.set_cons_zero]
    refine wpQuiet_take (by rfl) (fun K hK => ⟨.agg #[.int .i64 k, .int .i64 v, .string D, .string S, .string T, .int .i64 l, .int .i64 0, .int .i64 0, .bool false, .slice aL G.length cL], fun w2' hw2 => ?_, hK _ ?_⟩)
    · go_simp
      go_at_call 39
      refine (FA.out aL cL w2').mono ?_
      rintro e w5 ⟨rfl, hb5⟩
      exact ⟨rfl, hw2.trans (hb5.mono hw2.size)⟩
    clear hK K
    simp only [Act.put, List.setIfInBounds_toArray, List.set_cons_succ, List.set_cons_zero]
    refine wpQuiet_take (by rfl) (fun K hK => ⟨.agg #[.int .i64 k, .int .i64 v, .string D, .string S, .string T, .int .i64 l, .int .i64 0, .int .i64 0, .bool false, .slice a G.length c], fun w2' hw2 => ?_, hK _ ?_⟩)
    · obtain ⟨d0, d1, d2, d3, d4, d5, d6, d7, d8, d9⟩ := cells10 ((hw2.block _ q10).trans R10.out)
      clear hw2
      go_simp
    clear hK K
    simp only [Act.put, List.setIfInBounds_toArray, List.set_cons_succ, List.set_cons_zero]
    refine wpQuiet_take (by rfl) (fun K hK => ⟨.bool true, fun w2' hw2 => ?_, hK _ ?_⟩)
    · go_simp
      go_at_call 38
      refine (SY.out aL a cL c w2' (I10.out.later hw2) (HL10.out.later hw2)).mono ?_
      rintro e w5 ⟨rfl, hb5⟩
      exact ⟨rfl, hw2.trans (hb5.mono hw2.size)⟩
    clear hK K
    simp only [Act.put, List.setIfInBounds_toArray, List.set_cons_succ, List.set_cons_zero]
    refine wpQuiet_take (by rfl) (fun K hK => ⟨.bool false, fun w2' hw2 => ?_, hK _ ?_⟩)
    · clear hw2; go_simp
    clear hK K
    simp only [Act.put, List.setIfInBounds_toArray, List.set_cons_succ, List.set_cons_zero]
    refine wpQuiet_take0 ?_
    intro w11 hb11
    have H11 := Lib.hid (H10.out.trans (hb11.mono H10.out.size))
    clear hb11 H10 R8b I10 HL10 R10 q8 q10
    obtain ⟨c0, c1, c2, c3, c4, c5, c6, c7, c8, c9⟩ := CX.out w11 H11.out
    clear c1 c2 c3 c4 c6 c8 c9
    obtain rfl | rfl | rfl := hk012
    all_goals
      go_wp2_with fail
      go_ret
      exact ⟨by simp, BEL.out.trans (H11.out.mono BEL.out.size)⟩
end Go.Proofs.YtjbpjoondmcnlaaDoor
namespace Go.Proofs.YtjbpjoondmcnlaaDoor
open Go Go.RowKit Go.BigFrame
set_option linter.unusedSimpArgs false
set_option linter.unusedVariables false
set_option maxRecDepth 100000
set_option maxHeartbeats 16000000 in
theorem back_B (k v l N : Int) (z : Nat) (D S : ByteArray) (tf : Nat → BitVec 8) (nt : Nat) (ph : Bool) (a : Option Addr) (c : Nat) (G : List Int) (w : World) (hL : IntsIn w (.slice a G.length c) G) (hG : G.length ≤ 20000000000000)
    (ra : Option Addr) (rl rc : Nat) (rf : Nat → BitVec 8) (hR : BytesIn w ra rl rf) (hrc : rl ≤ rc) (hrm : rc ≤ maxLen) (tab : Tab w)
    (hin : inB G D.size S.size nt v l N (z : Int)) (hf : inF k v l N (z : Int) S.size nt G.length ph)
    (hk : k < 3) (hl : ¬ l ≤ (z : Int) + (min rl 2000 : Nat)) :
    Calls Tryd.prog 11 #[.agg (hdC k v D S (strOf tf nt) l N (z : Int) ph (.slice a G.length c)), .slice ra rl rc] w fun e w' => e = .returned (.bool true) ∧ Below w.heap.size w w' := by
  have hk3 : ¬ (3 : Int) ≤ k := by omega
  obtain ⟨X, hX⟩ : ∃ X, hputS k v D S tf nt l N z ph G = X := ⟨_, rfl⟩
  obtain ⟨n, hn⟩ : ∃ n, X.size = n := ⟨_, rfl⟩
  have hn0 : z < n ∧ n ≤ 3000 := by have h := hputS_small (tf := tf) hin hf; rw [hX, hn] at h; exact h
  have hlb := hin.2.2.2.2.2.2.1
  have hzb := hin.2.2.2.2.2.2.2.2
  obtain ⟨hzn, hn3⟩ := hn0
  obtain ⟨rm, hrm'⟩ : ∃ rm, min rl 2000 = rm := ⟨_, rfl⟩
  have hrm2 : rm ≤ 2000 := by omega
  rw [hrm'] at hl
  have su := Lib.hid (fun w' => run_upto w' ra rm rl rc (if (2000 : Int) < (rl : Int) then (2000 : Int) else (rl : Int)) (by split <;> omega) (by omega) hrc)
  have HR := Lib.hid (bytesIn_upto (k := rm) hR (by omega))
  have PPH := Lib.hid (fun (w' : World) (L' : Value) (hL' : IntsIn w' L' G) (t : Tab w') => put_in k v l N z D S tf nt ph G hin hf X n hX hn w' L' hL' t)
  have GET := Lib.hid (fun (F : Nat → BitVec 8) (hF : ∀ i, i < n → F i = bx X i) (a' : Option Addr) (c' : Nat) (w' : World) (hB : BytesIn w' a' (n + rm) F) (hc : n + rm ≤ c') (hcm : c' ≤ maxLen) => get_back k v l N z D S tf nt ph G hin hf X n rm hX hn (by omega) (Got.no 3) (by unfold backG; rw [if_pos hk, if_neg (by omega)]) F hF a' c' w' hB hc hcm)
  have TO := Lib.hid (fun (w' : World) (h : IntsIn w' (.slice a G.length c) G) => to_any k v l N z D S (strOf tf nt) ph a c G w' h hG)
  have SY := Lib.hid (fun (a1 a2 : Option Addr) (c1 c2 : Nat) (w' : World) (h1 : IntsIn w' (.slice a1 G.length c1) G) (h2 : IntsIn w' (.slice a2 G.length c2) G) => same_yes k v l 0 0 D S (strOf tf nt) false a1 a2 c1 c2 G w' h1 h2)
  have FA := Lib.hid (fun (aL : Option Addr) (cL : Nat) (w' : World) => from_any k v l 0 0 D S (strOf tf nt) false aL G.length cL w')
  have HL := Lib.hid hL
  have TB := Lib.hid tab
  generalize strOf tf nt = T at *
  have LR := Lib.hid (fun (cc : Array Value) (q : Nat) (w' : World) (e : cc = hdC k v D S T l 0 0 false (.slice a G.length c)) (h : w'.heap[q]? = some (.cells cc 63 (0, 0))) => load_rh e h)
  have hcD : n + rm ≤ 5000 := by omega
  have h20' : (2000 : Int) < (rl : Int) ∧ rm = 2000 ∨ ¬ (2000 : Int) < (rl : Int) ∧ rm = rl := by omega
  clear hL tab hR hin hf hrm' hrm hX hn
  unfold hdC at PPH TO SY FA LR ⊢
  obtain ⟨h20, rfl⟩ | ⟨h20, rfl⟩ := h20'
  all_goals
    go_enter Tryd.func11, Tryd.ntmps11
    have row := heap_alloc_last w (.cells #[.int .i64 k, .int .i64 v, .string D, .string S, .string T, .int .i64 l, .int .i64 N, .int .i64 (z : Int), .bool ph, .slice a G.length c] 63)
    have bel := (Below.refl w.heap.size w).alloc (Nat.le_refl _) (.cells #[.int .i64 k, .int .i64 v, .string D, .string S, .string T, .int .i64 l, .int .i64 N, .int .i64 (z : Int), .bool ph, .slice a G.length c] 63)
    go_upto_region 1 with (fail)
    generalize w.alloc _ = wa at *
    have BEL := Lib.hid bel
    have QL := Lib.hid (lt_row row)
    have CX := Lib.hid (fun (w' : World) (hb : Below wa.heap.size wa w') => cells10 ((hb.block _ (lt_row row)).trans row))
    have RX := Lib.hid (fun (w' : World) (hb : Below wa.heap.size wa w') => (hb.block _ (lt_row row)).trans row)
    clear row bel
    obtain ⟨c0, c1, c2, c3, c4, c5, c6, c7, c8, c9⟩ := CX.out wa (Below.refl _ _)
    go_wp2_with fail
    with_reducible refine (TO.out wa (HL.out.later BEL.out)).mono ?_
    rintro e w2 ⟨L', rfl, hL2, hb2⟩
    have H2 := Lib.hid hb2
    have L2 := Lib.hid hL2
    clear hb2 hL2 c0 c1 c2 c3 c4 c5 c6 c7 c8 c9 TO
    go_wp2_with fail
    with_reducible refine (PPH.out w2 L' L2.out (TB.out.later (BEL.out.trans (H2.out.mono BEL.out.size)))).mono ?_
    rintro e w3 ⟨ab, cb, rfl, hba, hcb, hcbm, hb3⟩
    have H3 := Lib.hid (H2.out.trans (hb3.mono H2.out.size))
    have BA := Lib.hid hba
    clear hba hb3 PPH L2 TB
    go_wp2_with fail
    with_reducible refine (heads_any w3).mono ?_
    rintro e w4 ⟨rfl, hb4⟩
    have H4 := Lib.hid (H3.out.trans (hb4.mono H3.out.size))
    have BA4 := Lib.hid (bytesIn_later BA.out hb4)
    have hsu := su.out
    clear hb4 BA H2 H3
    obtain ⟨c0, c1, c2, c3, c4, c5, c6, c7, c8, c9⟩ := CX.out w4 H4.out
    clear c1 c2 c3 c4 c5 c6 c7 c8 c9
    go_upto_region 7 with (fail)
    clear hsu c0 su hrc
    have E1 := Lib.hid (Own.empty (B := w4.heap.size) (bx X) w4 (Nat.le_refl _))
    have hal := (Below.refl w4.heap.size w4).alloc (Nat.le_refl _) (.cells #[] 5)
    have AL := Lib.hid hal
    have S1 := Lib.hid (src_in (bytesIn_later BA4.out hal) cb)
    have RS := Lib.hid (fun (w' : World) (h : Below w4.heap.size w4 w') => src_in (bytesIn_later HR.out (BEL.out.trans ((H4.out.trans (h.mono H4.out.size)).mono BEL.out.size))) rc)
    clear hal
    go_upto_region 8 with (first
      | (at_builtin; refine wpList_append_bytes (o := ⟨some 44, _, _, _, _, _⟩) rfl _ _ 26 rfl rfl rfl E1.out S1.out (by omega) ?_; intro v5 w5 ho5 hg5; rw [Nat.zero_add] at ho5; have O5 := Lib.hid ho5; have G5 := Lib.hid (AL.out.trans (hg5.below E1.out)); clear ho5 hg5)
      | (at_builtin; refine wpList_append_bytes (o := ⟨some 46, _, _, _, _, _⟩) rfl _ _ 26 rfl rfl rfl O5.out (RS.out _ G5.out) (by omega) ?_; intro v6 w6 ho6 hg6; have O6 := Lib.hid ho6; have G6 := Lib.hid (G5.out.trans (hg6.below O5.out)); clear ho6 hg6)
      | fail)
    obtain ⟨a6, k6, rfl, hc6, hcm6, hb6⟩ := O6.out.asIn
    have B6 := Lib.hid hb6
    have H6 := Lib.hid (H4.out.trans (G6.out.mono H4.out.size))
    have GT := Lib.hid (GET.out (joinb (joinb (bx X) 0 (bx X)) n rf) (fun i hi => by unfold joinb; rw [if_pos (by omega), if_neg (by omega), Nat.sub_zero]) a6 k6 w6 B6.out hc6 hcm6)
    clear hb6 O5 O6 G5 G6 E1 S1 RS AL BA4 H4 HR GET
    obtain ⟨c0, c1, c2, c3, c4, c5, c6, c7, c8, c9⟩ := CX.out w6 H6.out
    clear c0 c1 c3 c4 c5 c6 c7 c8 c9
    go_upto_region 8 with (fail)
    go_wp2_with fail
    with_reducible refine GT.out.mono ?_
    rintro e w7 ⟨aL, cL, rfl, _, hI7, hb7⟩
    have I7 := Lib.hid hI7
    have H7 := Lib.hid (H6.out.trans (hb7.mono H6.out.size))
    clear hI7 hb7 c2
    dsimp only [Got.header]
    unfold hdC
    unfold Got.no
    dsimp only [List.length_nil]
    iterate 16 go_step
    refine wpList_alloc_row rfl 66 rfl _ hd_zero ?_
    simp only [Act.put, List.setIfInBounds_toArray, List.set_cons_succ, List.set_cons_zero]
    refine wpList_store_row rfl 66 (.tmp 8) (.tmp 53) rfl w7.heap.size 66 _ (hdC 0 0 ⟨#[]⟩ ⟨#[]⟩ ⟨#[]⟩ 0 0 0 false (.slice aL 0 cL)) rfl rfl (heap_alloc_last _ _) rfl (by kernel_rfl) (hdC_one' _ _ _ _ _ _ _ _ _ _ _ _) ?_
    intro w8 rs
    simp only [Act.put, List.setIfInBounds_toArray, List.set_cons_succ, List.set_cons_zero]
    have R8 := Lib.hid rs.row
    have I8 := Lib.hid (I7.out.later (((Below.refl w7.heap.size w7).alloc (Nat.le_refl _) _).trans (rs.below w7.heap.size (Nat.le_refl _))))
    have H8 := Lib.hid (H7.out.trans ((((Below.refl w7.heap.size w7).alloc (Nat.le_refl _) _).trans (rs.below w7.heap.size (Nat.le_refl _))).mono H7.out.size))
    clear rs
    clear GT I7 B6 H6 H7 I8 R8
    obtain ⟨c0, c1, c2, c3, c4, c5, c6, c7, c8, c9⟩ := CX.out w8 H8.out
    clear c1 c2 c3 c4 c6 c8 c9
    go_wp2_with fail
    go_ret
    exact ⟨by simp, BEL.out.trans (H8.out.mono BEL.out.size)⟩
end Go.Proofs.YtjbpjoondmcnlaaDoor
namespace Go.Proofs.YtjbpjoondmcnlaaDoor
open Go Go.RowKit Go.BigFrame
set_option linter.unusedSimpArgs false
set_option linter.unusedVariables false
set_option maxRecDepth 100000
set_option maxHeartbeats 16000000 in
theorem back_C (v l N : Int) (z : Nat) (D S : ByteArray) (tf : Nat → BitVec 8) (nt : Nat) (ph : Bool) (a : Option Addr) (c : Nat) (G : List Int) (w : World) (hL : IntsIn w (.slice a G.length c) G) (hG : G.length ≤ 20000000000000)
    (ra : Option Addr) (rl rc : Nat) (rf : Nat → BitVec 8) (hR : BytesIn w ra rl rf) (hrc : rl ≤ rc) (hrm : rc ≤ maxLen) (tab : Tab w)
    (hin : inB G D.size S.size nt v l N (z : Int)) (hf : inF 4 v l N (z : Int) S.size nt G.length ph) :
    Calls Tryd.prog 11 #[.agg (hdC 4 v D S (strOf tf nt) l N (z : Int) ph (.slice a G.length c)), .slice ra rl rc] w fun e w' => e = .returned (.bool true) ∧ Below w.heap.size w w' := by
  obtain ⟨X, hX⟩ : ∃ X, hputS 4 v D S tf nt l N z ph G = X := ⟨_, rfl⟩
  obtain ⟨n, hn⟩ : ∃ n, X.size = n := ⟨_, rfl⟩
  have hn0 : z < n ∧ n ≤ 3000 := by have h := hputS_small (tf := tf) hin hf; rw [hX, hn] at h; exact h
  have hlb := hin.2.2.2.2.2.2.1
  have hzb := hin.2.2.2.2.2.2.2.2
  obtain ⟨hzn, hn3⟩ := hn0
  obtain ⟨rm, hrm'⟩ : ∃ rm, min rl 2000 = rm := ⟨_, rfl⟩
  have hrm2 : rm ≤ 2000 := by omega
  have su := Lib.hid (fun w' => run_upto w' ra rm rl rc (if (2000 : Int) < (rl : Int) then (2000 : Int) else (rl : Int)) (by split <;> omega) (by omega) hrc)
  have HR := Lib.hid (bytesIn_upto (k := rm) hR (by omega))
  have PPH := Lib.hid (fun (w' : World) (L' : Value) (hL' : IntsIn w' L' G) (t : Tab w') => put_in 4 v l N z D S tf nt ph G hin hf X n hX hn w' L' hL' t)
  have GET := Lib.hid (fun (F : Nat → BitVec 8) (hF : ∀ i, i < n → F i = bx X i) (a' : Option Addr) (c' : Nat) (w' : World) (hB : BytesIn w' a' (n + rm) F) (hc : n + rm ≤ c') (hcm : c' ≤ maxLen) => get_back 4 v l N z D S tf nt ph G hin hf X n rm hX hn (by omega) ⟨4, v, D, S, strOf tf nt, l, G, n - z, n + rm, 0⟩ (by unfold backG; rw [if_neg (by omega), if_pos rfl]) F hF a' c' w' hB hc hcm)
  have TO := Lib.hid (fun (w' : World) (h : IntsIn w' (.slice a G.length c) G) => to_any 4 v l N z D S (strOf tf nt) ph a c G w' h hG)
  have SY := Lib.hid (fun (a1 a2 : Option Addr) (c1 c2 : Nat) (w' : World) (h1 : IntsIn w' (.slice a1 G.length c1) G) (h2 : IntsIn w' (.slice a2 G.length c2) G) => same_yes 4 v l 0 0 D S (strOf tf nt) false a1 a2 c1 c2 G w' h1 h2)
  have FA := Lib.hid (fun (aL : Option Addr) (cL : Nat) (w' : World) => from_any 4 v l 0 0 D S (strOf tf nt) false aL G.length cL w')
  have HL := Lib.hid hL
  have TB := Lib.hid tab
  generalize strOf tf nt = T at *
  have LR := Lib.hid (fun (cc : Array Value) (q : Nat) (w' : World) (e : cc = hdC 4 v D S T l 0 0 false (.slice a G.length c)) (h : w'.heap[q]? = some (.cells cc 63 (0, 0))) => load_rh e h)
  have hcD : n + rm ≤ 5000 := by omega
  have h20' : (2000 : Int) < (rl : Int) ∧ rm = 2000 ∨ ¬ (2000 : Int) < (rl : Int) ∧ rm = rl := by omega
  clear hL tab hR hin hf hrm' hrm hX hn
  unfold hdC at PPH TO SY FA LR ⊢
  obtain ⟨h20, rfl⟩ | ⟨h20, rfl⟩ := h20'
  all_goals
    go_enter Tryd.func11, Tryd.ntmps11
    have row := heap_alloc_last w (.cells #[.int .i64 4, .int .i64 v, .string D, .string S, .string T, .int .i64 l, .int .i64 N, .int .i64 (z : Int), .bool ph, .slice a G.length c] 63)
    have bel := (Below.refl w.heap.size w).alloc (Nat.le_refl _) (.cells #[.int .i64 4, .int .i64 v, .string D, .string S, .string T, .int .i64 l, .int .i64 N, .int .i64 (z : Int), .bool ph, .slice a G.length c] 63)
    go_upto_region 1 with (fail)
    generalize w.alloc _ = wa at *
    have BEL := Lib.hid bel
    have QL := Lib.hid (lt_row row)
    have CX := Lib.hid (fun (w' : World) (hb : Below wa.heap.size wa w') => cells10 ((hb.block _ (lt_row row)).trans row))
    have RX := Lib.hid (fun (w' : World) (hb : Below wa.heap.size wa w') => (hb.block _ (lt_row row)).trans row)
    clear row bel
    obtain ⟨c0, c1, c2, c3, c4, c5, c6, c7, c8, c9⟩ := CX.out wa (Below.refl _ _)
    go_wp2_with fail
    with_reducible refine (TO.out wa (HL.out.later BEL.out)).mono ?_
    rintro e w2 ⟨L', rfl, hL2, hb2⟩
    have H2 := Lib.hid hb2
    have L2 := Lib.hid hL2
    clear hb2 hL2 c0 c1 c2 c3 c4 c5 c6 c7 c8 c9 TO
    go_wp2_with fail
    with_reducible refine (PPH.out w2 L' L2.out (TB.out.later (BEL.out.trans (H2.out.mono BEL.out.size)))).mono ?_
    rintro e w3 ⟨ab, cb, rfl, hba, hcb, hcbm, hb3⟩
    have H3 := Lib.hid (H2.out.trans (hb3.mono H2.out.size))
    have BA := Lib.hid hba
    clear hba hb3 PPH L2 TB
    go_wp2_with fail
    with_reducible refine (heads_any w3).mono ?_
    rintro e w4 ⟨rfl, hb4⟩
    have H4 := Lib.hid (H3.out.trans (hb4.mono H3.out.size))
    have BA4 := Lib.hid (bytesIn_later BA.out hb4)
    have hsu := su.out
    clear hb4 BA H2 H3
    obtain ⟨c0, c1, c2, c3, c4, c5, c6, c7, c8, c9⟩ := CX.out w4 H4.out
    clear c1 c2 c3 c4 c5 c6 c7 c8 c9
    go_upto_region 7 with (fail)
    clear hsu c0 su hrc
    have E1 := Lib.hid (Own.empty (B := w4.heap.size) (bx X) w4 (Nat.le_refl _))
    have hal := (Below.refl w4.heap.size w4).alloc (Nat.le_refl _) (.cells #[] 5)
    have AL := Lib.hid hal
    have S1 := Lib.hid (src_in (bytesIn_later BA4.out hal) cb)
    have RS := Lib.hid (fun (w' : World) (h : Below w4.heap.size w4 w') => src_in (bytesIn_later HR.out (BEL.out.trans ((H4.out.trans (h.mono H4.out.size)).mono BEL.out.size))) rc)
    clear hal
    go_upto_region 8 with (first
      | (at_builtin; refine wpList_append_bytes (o := ⟨some 44, _, _, _, _, _⟩) rfl _ _ 26 rfl rfl rfl E1.out S1.out (by omega) ?_; intro v5 w5 ho5 hg5; rw [Nat.zero_add] at ho5; have O5 := Lib.hid ho5; have G5 := Lib.hid (AL.out.trans (hg5.below E1.out)); clear ho5 hg5)
      | (at_builtin; refine wpList_append_bytes (o := ⟨some 46, _, _, _, _, _⟩) rfl _ _ 26 rfl rfl rfl O5.out (RS.out _ G5.out) (by omega) ?_; intro v6 w6 ho6 hg6; have O6 := Lib.hid ho6; have G6 := Lib.hid (G5.out.trans (hg6.below O5.out)); clear ho6 hg6)
      | fail)
    obtain ⟨a6, k6, rfl, hc6, hcm6, hb6⟩ := O6.out.asIn
    have B6 := Lib.hid hb6
    have H6 := Lib.hid (H4.out.trans (G6.out.mono H4.out.size))
    have GT := Lib.hid (GET.out (joinb (joinb (bx X) 0 (bx X)) n rf) (fun i hi => by unfold joinb; rw [if_pos (by omega), if_neg (by omega), Nat.sub_zero]) a6 k6 w6 B6.out hc6 hcm6)
    clear hb6 O5 O6 G5 G6 E1 S1 RS AL BA4 H4 HR GET
    obtain ⟨c0, c1, c2, c3, c4, c5, c6, c7, c8, c9⟩ := CX.out w6 H6.out
    clear c0 c1 c3 c4 c5 c6 c7 c8 c9
    go_upto_region 8 with (fail)
    go_wp2_with fail
    with_reducible refine GT.out.mono ?_
    rintro e w7 ⟨aL, cL, rfl, _, hI7, hb7⟩
    have I7 := Lib.hid hI7
    have H7 := Lib.hid (H6.out.trans (hb7.mono H6.out.size))
    clear hI7 hb7 c2
    dsimp only [Got.header]
    unfold hdC
    rw [show ((n - z : Nat) : Int) = (n : Int) - (z : Int) by omega]
    iterate 16 go_step
    refine wpList_alloc_row rfl 66 rfl _ hd_zero ?_
    simp only [Act.put, List.setIfInBounds_toArray, List.set_cons_succ, List.set_cons_zero]
    refine wpList_store_row rfl 66 (.tmp 8) (.tmp 53) rfl w7.heap.size 66 _ (hdC 4 v D S T l 0 0 false (.slice aL G.length cL)) rfl rfl (heap_alloc_last _ _) rfl (by kernel_rfl) (hdC_one' _ _ _ _ _ _ _ _ _ _ _ _) ?_
    intro w8 rs
    simp only [Act.put, List.setIfInBounds_toArray, List.set_cons_succ, List.set_cons_zero]
    have R8 := Lib.hid rs.row
    have I8 := Lib.hid (I7.out.later (((Below.refl w7.heap.size w7).alloc (Nat.le_refl _) _).trans (rs.below w7.heap.size (Nat.le_refl _))))
    have H8 := Lib.hid (H7.out.trans ((((Below.refl w7.heap.size w7).alloc (Nat.le_refl _) _).trans (rs.below w7.heap.size (Nat.le_refl _))).mono H7.out.size))
    clear rs
    clear GT I7 B6 H6 H7
    have Q8 := lt_row R8.out
    obtain ⟨c0, c1, c2, c3, c4, c5, c6, c7, c8, c9⟩ := CX.out w8 H8.out
    go_upto_region 11 with (fail)
    iterate 4 go_step
    refine wpList_alloc_row rfl 63 rfl _ refhd_zero ?_
    simp only [Act.put, List.setIfInBounds_toArray, List.set_cons_succ, List.set_cons_zero]
    refine wpList_store_row rfl 63 (.tmp 11) (.tmp 72) rfl w8.heap.size 63 _ (hdC 4 v D S T l N (z : Int) ph (.slice a G.length c)) rfl rfl (heap_alloc_last _ _) rfl (by kernel_rfl) (hdC_one' _ _ _ _ _ _ _ _ _ _ _ _) ?_
    intro w9 rs
    simp only [Act.put, List.setIfInBounds_toArray, List.set_cons_succ, List.set_cons_zero]
    have R9 := Lib.hid rs.row
    have G9 := Lib.hid (((Below.refl w8.heap.size w8).alloc (Nat.le_refl _) _).trans (rs.below w8.heap.size (Nat.le_refl _)))
    clear rs c0 c1 c2 c3 c4 c5 c6 c7 c8 c9
    have r9 := R9.out
    unfold hdC at r9
    obtain ⟨c0, c1, c2, c3, c4, c5, c6, c7, c8, c9⟩ := cells10 r9
    have f6 : w9.frozen? ⟨w8.heap.size, 6, none⟩ = false := frozen_of_row _ _ _ _ _ r9
    have f7 : w9.frozen? ⟨w8.heap.size, 7, none⟩ = false := frozen_of_row _ _ _ _ _ r9
    have f8 : w9.frozen? ⟨w8.heap.size, 8, none⟩ = false := frozen_of_row _ _ _ _ _ r9
    clear c0 c1 c2 c3 c4 c5 c9 r9
    go_upto_region 13 with (fail)
    clear c6 c7 c8 f6 f7 f8
    have s6 := rowSet_cell w9 w8.heap.size 6 _ _ (.int .i64 0) R9.out
    have s7 := rowSet_cell _ w8.heap.size 7 _ _ (.int .i64 0) s6.row
    have s8 := rowSet_cell _ w8.heap.size 8 _ _ (.bool false) s7.row
    have R10 := Lib.hid s8.row
    have G10 := Lib.hid (((G9.out.trans (s6.below _ (Nat.le_refl _))).trans (s7.below _ (Nat.le_refl _))).trans (s8.below _ (Nat.le_refl _)))
    clear s6 s7 s8 R9 G9
    generalize World.setCell _ _ _ = w10 at *
    have H10 := Lib.hid (H8.out.trans (G10.out.mono H8.out.size))
    have R8b := Lib.hid ((G10.out.block _ Q8).trans R8.out)
    have I10 := Lib.hid (I8.out.later G10.out)
    have HL10 := Lib.hid (HL.out.later (BEL.out.trans (H10.out.mono BEL.out.size)))
    have q8 := lt_row R8b.out
    have q10 := lt_row R10.out
    clear R8 I8 H8 HL G10 Q8
    refine region_class1 8 (fun w' => Below w10.heap.size w10 w') mixedOrders (by kernel_rfl) (Below.refl _ _).drew rfl ?_
    refine wpQuiet_take (by rfl) (fun K hK => ⟨.int .i64 0, fun w2' hw2 => ?_, hK _ ?_⟩)
    · clear hw2; go_simp
    clear hK K
    simp only [Act.put, List.setIfInBounds_toArray, List.set_cons_succ, List.set_cons_zero]
    refine wpQuiet_take (by rfl) (fun K hK => ⟨.bool false, fun w2' hw2 => ?_, hK _ ?_⟩)
    · clear hw2; go_simp
    clear hK K
    simp only [Act.put, List.setIfInBounds_toArray, List.set_cons_succ, List.set_cons_zero]
    refine wpQuiet_take (by rfl) (fun K hK => ⟨.bool false, fun w2' hw2 => ?_, hK _ ?_⟩)
    · clear hw2; go_simp
    clear hK K
    simp only [Act.put, List.setIfInBounds_toArray, List.set_cons_succ, List.set_cons_zero]
    refine wpQuiet_take (by rfl) (fun K hK => ⟨.agg #[.int .i64 4, .int .i64 v, .string D, .string S, .string T, .int .i64 l, .int .i64 0, .int .i64 0, .bool false, .slice aL G.length cL], fun w2' hw2 => ?_, hK _ ?_⟩)
    · obtain ⟨d0, d1, d2, d3, d4, d5, d6, d7, d8, d9⟩ := cells10 ((hw2.block _ q8).trans R8b.out)
      clear hw2
      go_simp
    clear hK K
    simp only [Act.put, List.setIfInBounds_toArray, List.set_cons_succ, List.set_cons_zero]
    refine wpQuiet_take (by rfl) (fun K hK => ⟨.agg #[.int .i64 4, .int .i64 v, .string D, .string S, .string T, .int .i64 l, .int .i64 0, .int .i64 0, .bool false, .slice aL G.length cL], fun w2' hw2 => ?_, hK _ ?_⟩)
    · go_simp
      go_at_call 39
      refine (FA.out aL cL w2').mono ?_
      rintro e w5 ⟨rfl, hb5⟩
      exact ⟨rfl, hw2.trans (hb5.mono hw2.size)⟩
    clear hK K
    simp only [Act.put, List.setIfInBounds_toArray, List.set_cons_succ, List.set_cons_zero]
    refine wpQuiet_take (by rfl) (fun K hK => ⟨.agg #[.int .i64 4, .int .i64 v, .string D, .string S, .string T, .int .i64 l, .int .i64 0, .int .i64 0, .bool false, .slice a G.length c], fun w2' hw2 => ?_, hK _ ?_⟩)
    · obtain ⟨d0, d1, d2, d3, d4, d5, d6, d7, d8, d9⟩ := cells10 ((hw2.block _ q10).trans R10.out)
      clear hw2
      go_simp
    clear hK K
    simp only [Act.put, List.setIfInBounds_toArray, List.set_cons_succ, List.set_cons_zero]
    refine wpQuiet_take (by rfl) (fun K hK => ⟨.bool true, fun w2' hw2 => ?_, hK _ ?_⟩)
    · go_simp
      go_at_call 38
      refine (SY.out aL a cL c w2' (I10.out.later hw2) (HL10.out.later hw2)).mono ?_
      rintro e w5 ⟨rfl, hb5⟩
      exact ⟨rfl, hw2.trans (hb5.mono hw2.size)⟩
    clear hK K
    simp only [Act.put, List.setIfInBounds_toArray, List.set_cons_succ, List.set_cons_zero]
    refine wpQuiet_take (by rfl) (fun K hK => ⟨.bool false, fun w2' hw2 => ?_, hK _ ?_⟩)
    · clear hw2; go_simp
    clear hK K
    simp only [Act.put, List.setIfInBounds_toArray, List.set_cons_succ, List.set_cons_zero]
    refine wpQuiet_take0 ?_
    intro w11 hb11
    have H11 := Lib.hid (H10.out.trans (hb11.mono H10.out.size))
    clear hb11 H10 R8b I10 HL10 R10 q8 q10
    obtain ⟨c0, c1, c2, c3, c4, c5, c6, c7, c8, c9⟩ := CX.out w11 H11.out
    clear c1 c2 c3 c4 c6 c8 c9
    skip
    all_goals
      go_wp2_with fail
      go_ret
      exact ⟨by simp, BEL.out.trans (H11.out.mono BEL.out.size)⟩
end Go.Proofs.YtjbpjoondmcnlaaDoor
namespace Go.Proofs.YtjbpjoondmcnlaaDoor
open Go Go.RowKit Go.BigFrame
set_option linter.unusedSimpArgs false
set_option linter.unusedVariables false
set_option maxRecDepth 100000
set_option maxHeartbeats 16000000 in
theorem back_D3 (v l N : Int) (z : Nat) (D S : ByteArray) (tf : Nat → BitVec 8) (nt : Nat) (ph : Bool) (a : Option Addr) (c : Nat) (G : List Int) (w : World) (hL : IntsIn w (.slice a G.length c) G) (hG : G.length ≤ 20000000000000)
    (ra : Option Addr) (rl rc : Nat) (rf : Nat → BitVec 8) (hR : BytesIn w ra rl rf) (hrc : rl ≤ rc) (hrm : rc ≤ maxLen) (tab : Tab w)
    (hin : inB G D.size S.size nt v l N (z : Int)) (hf : inF 3 v l N (z : Int) S.size nt G.length ph) :
    Calls Tryd.prog 11 #[.agg (hdC 3 v D S (strOf tf nt) l N (z : Int) ph (.slice a G.length c)), .slice ra rl rc] w fun e w' => e = .returned (.bool true) ∧ Below w.heap.size w w' := by
  obtain ⟨X, hX⟩ : ∃ X, hputS 3 v D S tf nt l N z ph G = X := ⟨_, rfl⟩
  obtain ⟨n, hn⟩ : ∃ n, X.size = n := ⟨_, rfl⟩
  have hn0 : z < n ∧ n ≤ 3000 := by have h := hputS_small (tf := tf) hin hf; rw [hX, hn] at h; exact h
  have hlb := hin.2.2.2.2.2.2.1
  have hzb := hin.2.2.2.2.2.2.2.2
  obtain ⟨hzn, hn3⟩ := hn0
  obtain ⟨rm, hrm'⟩ : ∃ rm, min rl 2000 = rm := ⟨_, rfl⟩
  have hrm2 : rm ≤ 2000 := by omega
  have su := Lib.hid (fun w' => run_upto w' ra rm rl rc (if (2000 : Int) < (rl : Int) then (2000 : Int) else (rl : Int)) (by split <;> omega) (by omega) hrc)
  have HR := Lib.hid (bytesIn_upto (k := rm) hR (by omega))
  have PPH := Lib.hid (fun (w' : World) (L' : Value) (hL' : IntsIn w' L' G) (t : Tab w') => put_in 3 v l N z D S tf nt ph G hin hf X n hX hn w' L' hL' t)
  have GET := Lib.hid (fun (F : Nat → BitVec 8) (hF : ∀ i, i < n → F i = bx X i) (a' : Option Addr) (c' : Nat) (w' : World) (hB : BytesIn w' a' (n + 0) F) (hc : n + 0 ≤ c') (hcm : c' ≤ maxLen) => get_back 3 v l N z D S tf nt ph G hin hf X n 0 hX hn (fun _ => rfl) ⟨3, v, D, S, strOf tf nt, l, G, n, n, 0⟩ (by unfold backG; rw [if_neg (by omega), if_neg (by omega)]) F hF a' c' w' hB hc hcm)
  have TO := Lib.hid (fun (w' : World) (h : IntsIn w' (.slice a G.length c) G) => to_any 3 v l N z D S (strOf tf nt) ph a c G w' h hG)
  have SY := Lib.hid (fun (a1 a2 : Option Addr) (c1 c2 : Nat) (w' : World) (h1 : IntsIn w' (.slice a1 G.length c1) G) (h2 : IntsIn w' (.slice a2 G.length c2) G) => same_yes 3 v l 0 0 D S (strOf tf nt) false a1 a2 c1 c2 G w' h1 h2)
  have FA := Lib.hid (fun (aL : Option Addr) (cL : Nat) (w' : World) => from_any 3 v l 0 0 D S (strOf tf nt) false aL G.length cL w')
  have HL := Lib.hid hL
  have TB := Lib.hid tab
  generalize strOf tf nt = T at *
  have LR := Lib.hid (fun (cc : Array Value) (q : Nat) (w' : World) (e : cc = hdC 3 v D S T l 0 0 false (.slice a G.length c)) (h : w'.heap[q]? = some (.cells cc 63 (0, 0))) => load_rh e h)
  have hcD : n + rm ≤ 5000 := by omega
  have h20' : (2000 : Int) < (rl : Int) ∧ rm = 2000 ∨ ¬ (2000 : Int) < (rl : Int) ∧ rm = rl := by omega
  clear hL tab hR hin hf hrm' hrm hX hn
  unfold hdC at PPH TO SY FA LR ⊢
  obtain ⟨h20, rfl⟩ | ⟨h20, rfl⟩ := h20'
  all_goals
    go_enter Tryd.func11, Tryd.ntmps11
    have row := heap_alloc_last w (.cells #[.int .i64 3, .int .i64 v, .string D, .string S, .string T, .int .i64 l, .int .i64 N, .int .i64 (z : Int), .bool ph, .slice a G.length c] 63)
    have bel := (Below.refl w.heap.size w).alloc (Nat.le_refl _) (.cells #[.int .i64 3, .int .i64 v, .string D, .string S, .string T, .int .i64 l, .int .i64 N, .int .i64 (z : Int), .bool ph, .slice a G.length c] 63)
    go_upto_region 1 with (fail)
    generalize w.alloc _ = wa at *
    have BEL := Lib.hid bel
    have QL := Lib.hid (lt_row row)
    have CX := Lib.hid (fun (w' : World) (hb : Below wa.heap.size wa w') => cells10 ((hb.block _ (lt_row row)).trans row))
    have RX := Lib.hid (fun (w' : World) (hb : Below wa.heap.size wa w') => (hb.block _ (lt_row row)).trans row)
    clear row bel
    obtain ⟨c0, c1, c2, c3, c4, c5, c6, c7, c8, c9⟩ := CX.out wa (Below.refl _ _)
    go_wp2_with fail
    with_reducible refine (TO.out wa (HL.out.later BEL.out)).mono ?_
    rintro e w2 ⟨L', rfl, hL2, hb2⟩
    have H2 := Lib.hid hb2
    have L2 := Lib.hid hL2
    clear hb2 hL2 c0 c1 c2 c3 c4 c5 c6 c7 c8 c9 TO
    go_wp2_with fail
    with_reducible refine (PPH.out w2 L' L2.out (TB.out.later (BEL.out.trans (H2.out.mono BEL.out.size)))).mono ?_
    rintro e w3 ⟨ab, cb, rfl, hba, hcb, hcbm, hb3⟩
    have H3 := Lib.hid (H2.out.trans (hb3.mono H2.out.size))
    have BA := Lib.hid hba
    clear hba hb3 PPH L2 TB
    go_wp2_with fail
    with_reducible refine (heads_any w3).mono ?_
    rintro e w4 ⟨rfl, hb4⟩
    have H4 := Lib.hid (H3.out.trans (hb4.mono H3.out.size))
    have BA4 := Lib.hid (bytesIn_later BA.out hb4)
    have hsu := su.out
    clear hb4 BA H2 H3
    obtain ⟨c0, c1, c2, c3, c4, c5, c6, c7, c8, c9⟩ := CX.out w4 H4.out
    clear c1 c2 c3 c4 c5 c6 c7 c8 c9
    go_upto_region 7 with (fail)
    clear hsu c0 su hrc
    have E1 := Lib.hid (Own.empty (B := w4.heap.size) (bx X) w4 (Nat.le_refl _))
    have hal := (Below.refl w4.heap.size w4).alloc (Nat.le_refl _) (.cells #[] 5)
    have AL := Lib.hid hal
    have S1 := Lib.hid (src_in (bytesIn_later BA4.out hal) cb)
    have RS := Lib.hid (fun (w' : World) (h : Below w4.heap.size w4 w') => src_in (bytesIn_none w' rf) 0)
    clear hal
    go_upto_region 8 with (first
      | (at_builtin; refine wpList_append_bytes (o := ⟨some 44, _, _, _, _, _⟩) rfl _ _ 26 rfl rfl rfl E1.out S1.out (by omega) ?_; intro v5 w5 ho5 hg5; rw [Nat.zero_add] at ho5; have O5 := Lib.hid ho5; have G5 := Lib.hid (AL.out.trans (hg5.below E1.out)); clear ho5 hg5)
      | (at_builtin; refine wpList_append_bytes (o := ⟨some 46, _, _, _, _, _⟩) rfl _ _ 26 rfl rfl rfl O5.out (RS.out _ G5.out) (by omega) ?_; intro v6 w6 ho6 hg6; have O6 := Lib.hid ho6; have G6 := Lib.hid (G5.out.trans (hg6.below O5.out)); clear ho6 hg6)
      | fail)
    obtain ⟨a6, k6, rfl, hc6, hcm6, hb6⟩ := O6.out.asIn
    have B6 := Lib.hid hb6
    have H6 := Lib.hid (H4.out.trans (G6.out.mono H4.out.size))
    have GT := Lib.hid (GET.out (joinb (joinb (bx X) 0 (bx X)) n rf) (fun i hi => by unfold joinb; rw [if_pos (by omega), if_neg (by omega), Nat.sub_zero]) a6 k6 w6 B6.out hc6 hcm6)
    have GT : Hid (Calls Tryd.prog 37 #[.slice a6 n k6, .int .i64 (D.size : Int)] w6 (GotPost ⟨3, v, D, S, T, l, G, n, n, 0⟩ w6)) := GT
    clear hb6 O5 O6 G5 G6 E1 S1 RS AL BA4 H4 HR GET
    obtain ⟨c0, c1, c2, c3, c4, c5, c6, c7, c8, c9⟩ := CX.out w6 H6.out
    clear c0 c1 c3 c4 c5 c6 c7 c8 c9
    go_upto_region 8 with (fail)
    go_wp2_with fail
    with_reducible refine GT.out.mono ?_
    rintro e w7 ⟨aL, cL, rfl, _, hI7, hb7⟩
    have I7 := Lib.hid hI7
    have H7 := Lib.hid (H6.out.trans (hb7.mono H6.out.size))
    clear hI7 hb7 c2
    dsimp only [Got.header]
    unfold hdC
    skip
    iterate 16 go_step
    refine wpList_alloc_row rfl 66 rfl _ hd_zero ?_
    simp only [Act.put, List.setIfInBounds_toArray, List.set_cons_succ, List.set_cons_zero]
    refine wpList_store_row rfl 66 (.tmp 8) (.tmp 53) rfl w7.heap.size 66 _ (hdC 3 v D S T l 0 0 false (.slice aL G.length cL)) rfl rfl (heap_alloc_last _ _) rfl (by kernel_rfl) (hdC_one' _ _ _ _ _ _ _ _ _ _ _ _) ?_
    intro w8 rs
    simp only [Act.put, List.setIfInBounds_toArray, List.set_cons_succ, List.set_cons_zero]
    have R8 := Lib.hid rs.row
    have I8 := Lib.hid (I7.out.later (((Below.refl w7.heap.size w7).alloc (Nat.le_refl _) _).trans (rs.below w7.heap.size (Nat.le_refl _))))
    have H8 := Lib.hid (H7.out.trans ((((Below.refl w7.heap.size w7).alloc (Nat.le_refl _) _).trans (rs.below w7.heap.size (Nat.le_refl _))).mono H7.out.size))
    clear rs
    clear GT I7 B6 H6 H7
    have Q8 := lt_row R8.out
    obtain ⟨c0, c1, c2, c3, c4, c5, c6, c7, c8, c9⟩ := CX.out w8 H8.out
    go_upto_region 11 with (fail)
    iterate 4 go_step
    refine wpList_alloc_row rfl 63 rfl _ refhd_zero ?_
    simp only [Act.put, List.setIfInBounds_toArray, List.set_cons_succ, List.set_cons_zero]
    refine wpList_store_row rfl 63 (.tmp 11) (.tmp 72) rfl w8.heap.size 63 _ (hdC 3 v D S T l N (z : Int) ph (.slice a G.length c)) rfl rfl (heap_alloc_last _ _) rfl (by kernel_rfl) (hdC_one' _ _ _ _ _ _ _ _ _ _ _ _) ?_
    intro w9 rs
    simp only [Act.put, List.setIfInBounds_toArray, List.set_cons_succ, List.set_cons_zero]
    have R9 := Lib.hid rs.row
    have G9 := Lib.hid (((Below.refl w8.heap.size w8).alloc (Nat.le_refl _) _).trans (rs.below w8.heap.size (Nat.le_refl _)))
    clear rs c0 c1 c2 c3 c4 c5 c6 c7 c8 c9
    have r9 := R9.out
    unfold hdC at r9
    obtain ⟨c0, c1, c2, c3, c4, c5, c6, c7, c8, c9⟩ := cells10 r9
    have f6 : w9.frozen? ⟨w8.heap.size, 6, none⟩ = false := frozen_of_row _ _ _ _ _ r9
    have f7 : w9.frozen? ⟨w8.heap.size, 7, none⟩ = false := frozen_of_row _ _ _ _ _ r9
    have f8 : w9.frozen? ⟨w8.heap.size, 8, none⟩ = false := frozen_of_row _ _ _ _ _ r9
    clear c0 c1 c2 c3 c4 c5 c9 r9
    go_upto_region 13 with (fail)
    clear c6 c7 c8 f6 f7 f8
    have s6 := rowSet_cell w9 w8.heap.size 6 _ _ (.int .i64 0) R9.out
    have s7 := rowSet_cell _ w8.heap.size 7 _ _ (.int .i64 0) s6.row
    have s8 := rowSet_cell _ w8.heap.size 8 _ _ (.bool false) s7.row
    have R10 := Lib.hid s8.row
    have G10 := Lib.hid (((G9.out.trans (s6.below _ (Nat.le_refl _))).trans (s7.below _ (Nat.le_refl _))).trans (s8.below _ (Nat.le_refl _)))
    clear s6 s7 s8 R9 G9
    generalize World.setCell _ _ _ = w10 at *
    have H10 := Lib.hid (H8.out.trans (G10.out.mono H8.out.size))
    have R8b := Lib.hid ((G10.out.block _ Q8).trans R8.out)
    have I10 := Lib.hid (I8.out.later G10.out)
    have HL10 := Lib.hid (HL.out.later (BEL.out.trans (H10.out.mono BEL.out.size)))
    have q8 := lt_row R8b.out
    have q10 := lt_row R10.out
    clear R8 I8 H8 HL G10 Q8
    refine region_class1 8 (fun w' => Below w10.heap.size w10 w') mixedOrders (by kernel_rfl) (Below.refl _ _).drew rfl ?_
    refine wpQuiet_take (by rfl) (fun K hK => ⟨.int .i64 0, fun w2' hw2 => ?_, hK _ ?_⟩)
    · clear hw2; go_simp
    clear hK K
    simp only [Act.put, List.setIfInBounds_toArray, List.set_cons_succ, List.set_cons_zero]
    refine wpQuiet_take (by rfl) (fun K hK => ⟨.bool false, fun w2' hw2 => ?_, hK _ ?_⟩)
    · clear hw2; go_simp
    clear hK K
    simp only [Act.put, List.setIfInBounds_toArray, List.set_cons_succ, List.set_cons_zero]
    refine wpQuiet_take (by rfl) (fun K hK => ⟨.bool false, fun w2' hw2 => ?_, hK _ ?_⟩)
    · clear hw2; go_simp
    clear hK K
    simp only [Act.put, List.setIfInBounds_toArray, List.set_cons_succ, List.set_cons_zero]
    refine wpQuiet_take (by rfl) (fun K hK => ⟨.agg #[.int .i64 3, .int .i64 v, .string D, .string S, .string T, .int .i64 l, .int .i64 0, .int .i64 0, .bool false, .slice aL G.length cL], fun w2' hw2 => ?_, hK _ ?_⟩)
    · obtain ⟨d0, d1, d2, d3, d4, d5, d6, d7, d8, d9⟩ := cells10 ((hw2.block _ q8).trans R8b.out)
      clear hw2
      go_simp
    clear hK K
    simp only [Act.put, List.setIfInBounds_toArray, List.set_cons_succ, List.set_cons_zero]
    refine wpQuiet_take (by rfl) (fun K hK => ⟨.agg #[.int .i64 3, .int .i64 v, .string D, .string S, .string T, .int .i64 l, .int .i64 0, .int .i64 0, .bool false, .slice aL G.length cL], fun w2' hw2 => ?_, hK _ ?_⟩)
    · go_simp
      go_at_call 39
      refine (FA.out aL cL w2').mono ?_
      rintro e w5 ⟨rfl, hb5⟩
      exact ⟨rfl, hw2.trans (hb5.mono hw2.size)⟩
    clear hK K
    simp only [Act.put, List.setIfInBounds_toArray, List.set_cons_succ, List.set_cons_zero]
    refine wpQuiet_take (by rfl) (fun K hK => ⟨.agg #[.int .i64 3, .int .i64 v, .string D, .string S, .string T, .int .i64 l, .int .i64 0, .int .i64 0, .bool false, .slice a G.length c], fun w2' hw2 => ?_, hK _ ?_⟩)
    · obtain ⟨d0, d1, d2, d3, d4, d5, d6, d7, d8, d9⟩ := cells10 ((hw2.block _ q10).trans R10.out)
      clear hw2
      go_simp
    clear hK K
    simp only [Act.put, List.setIfInBounds_toArray, List.set_cons_succ, List.set_cons_zero]
    refine wpQuiet_take (by rfl) (fun K hK => ⟨.bool true, fun w2' hw2 => ?_, hK _ ?_⟩)
    · go_simp
      go_at_call 38
      refine (SY.out aL a cL c w2' (I10.out.later hw2) (HL10.out.later hw2)).mono ?_
      rintro e w5 ⟨rfl, hb5⟩
      exact ⟨rfl, hw2.trans (hb5.mono hw2.size)⟩
    clear hK K
    simp only [Act.put, List.setIfInBounds_toArray, List.set_cons_succ, List.set_cons_zero]
    refine wpQuiet_take (by rfl) (fun K hK => ⟨.bool false, fun w2' hw2 => ?_, hK _ ?_⟩)
    · clear hw2; go_simp
    clear hK K
    simp only [Act.put, List.setIfInBounds_toArray, List.set_cons_succ, List.set_cons_zero]
    refine wpQuiet_take0 ?_
    intro w11 hb11
    have H11 := Lib.hid (H10.out.trans (hb11.mono H10.out.size))
    clear hb11 H10 R8b I10 HL10 R10 q8 q10
    obtain ⟨c0, c1, c2, c3, c4, c5, c6, c7, c8, c9⟩ := CX.out w11 H11.out
    clear c1 c2 c3 c4 c6 c8 c9
    skip
    all_goals
      go_wp2_with fail
      go_ret
      exact ⟨by simp, BEL.out.trans (H11.out.mono BEL.out.size)⟩
end Go.Proofs.YtjbpjoondmcnlaaDoor
namespace Go.Proofs.YtjbpjoondmcnlaaDoor
open Go Go.RowKit Go.BigFrame
set_option linter.unusedSimpArgs false
set_option linter.unusedVariables false
set_option maxRecDepth 100000
set_option maxHeartbeats 16000000 in
theorem back_D5 (v l N : Int) (z : Nat) (D S : ByteArray) (tf : Nat → BitVec 8) (nt : Nat) (ph : Bool) (a : Option Addr) (c : Nat) (G : List Int) (w : World) (hL : IntsIn w (.slice a G.length c) G) (hG : G.length ≤ 20000000000000)
    (ra : Option Addr) (rl rc : Nat) (rf : Nat → BitVec 8) (hR : BytesIn w ra rl rf) (hrc : rl ≤ rc) (hrm : rc ≤ maxLen) (tab : Tab w)
    (hin : inB G D.size S.size nt v l N (z : Int)) (hf : inF 5 v l N (z : Int) S.size nt G.length ph) :
    Calls Tryd.prog 11 #[.agg (hdC 5 v D S (strOf tf nt) l N (z : Int) ph (.slice a G.length c)), .slice ra rl rc] w fun e w' => e = .returned (.bool true) ∧ Below w.heap.size w w' := by
  obtain ⟨X, hX⟩ : ∃ X, hputS 5 v D S tf nt l N z ph G = X := ⟨_, rfl⟩
  obtain ⟨n, hn⟩ : ∃ n, X.size = n := ⟨_, rfl⟩
  have hn0 : z < n ∧ n ≤ 3000 := by have h := hputS_small (tf := tf) hin hf; rw [hX, hn] at h; exact h
  have hlb := hin.2.2.2.2.2.2.1
  have hzb := hin.2.2.2.2.2.2.2.2
  obtain ⟨hzn, hn3⟩ := hn0
  obtain ⟨rm, hrm'⟩ : ∃ rm, min rl 2000 = rm := ⟨_, rfl⟩
  have hrm2 : rm ≤ 2000 := by omega
  have su := Lib.hid (fun w' => run_upto w' ra rm rl rc (if (2000 : Int) < (rl : Int) then (2000 : Int) else (rl : Int)) (by split <;> omega) (by omega) hrc)
  have HR := Lib.hid (bytesIn_upto (k := rm) hR (by omega))
  have PPH := Lib.hid (fun (w' : World) (L' : Value) (hL' : IntsIn w' L' G) (t : Tab w') => put_in 5 v l N z D S tf nt ph G hin hf X n hX hn w' L' hL' t)
  have GET := Lib.hid (fun (F : Nat → BitVec 8) (hF : ∀ i, i < n → F i = bx X i) (a' : Option Addr) (c' : Nat) (w' : World) (hB : BytesIn w' a' (n + 0) F) (hc : n + 0 ≤ c') (hcm : c' ≤ maxLen) => get_back 5 v l N z D S tf nt ph G hin hf X n 0 hX hn (fun _ => rfl) ⟨5, v, D, S, strOf tf nt, l, G, n, n, 0⟩ (by unfold backG; rw [if_neg (by omega), if_neg (by omega)]) F hF a' c' w' hB hc hcm)
  have TO := Lib.hid (fun (w' : World) (h : IntsIn w' (.slice a G.length c) G) => to_any 5 v l N z D S (strOf tf nt) ph a c G w' h hG)
  have SY := Lib.hid (fun (a1 a2 : Option Addr) (c1 c2 : Nat) (w' : World) (h1 : IntsIn w' (.slice a1 G.length c1) G) (h2 : IntsIn w' (.slice a2 G.length c2) G) => same_yes 5 v l 0 0 D S (strOf tf nt) false a1 a2 c1 c2 G w' h1 h2)
  have FA := Lib.hid (fun (aL : Option Addr) (cL : Nat) (w' : World) => from_any 5 v l 0 0 D S (strOf tf nt) false aL G.length cL w')
  have HL := Lib.hid hL
  have TB := Lib.hid tab
  generalize strOf tf nt = T at *
  have LR := Lib.hid (fun (cc : Array Value) (q : Nat) (w' : World) (e : cc = hdC 5 v D S T l 0 0 false (.slice a G.length c)) (h : w'.heap[q]? = some (.cells cc 63 (0, 0))) => load_rh e h)
  have hcD : n + rm ≤ 5000 := by omega
  have h20' : (2000 : Int) < (rl : Int) ∧ rm = 2000 ∨ ¬ (2000 : Int) < (rl : Int) ∧ rm = rl := by omega
  clear hL tab hR hin hf hrm' hrm hX hn
  unfold hdC at PPH TO SY FA LR ⊢
  obtain ⟨h20, rfl⟩ | ⟨h20, rfl⟩ := h20'
  all_goals
    go_enter Tryd.func11, Tryd.ntmps11
    have row := heap_alloc_last w (.cells #[.int .i64 5, .int .i64 v, .string D, .string S, .string T, .int .i64 l, .int .i64 N, .int .i64 (z : Int), .bool ph, .slice a G.length c] 63)
    have bel := (Below.refl w.heap.size w).alloc (Nat.le_refl _) (.cells #[.int .i64 5, .int .i64 v, .string D, .string S, .string T, .int .i64 l, .int .i64 N, .int .i64 (z : Int), .bool ph, .slice a G.length c] 63)
    go_upto_region 1 with (fail)
    generalize w.alloc _ = wa at *
    have BEL := Lib.hid bel
    have QL := Lib.hid (lt_row row)
    have CX := Lib.hid (fun (w' : World) (hb : Below wa.heap.size wa w') => cells10 ((hb.block _ (lt_row row)).trans row))
    have RX := Lib.hid (fun (w' : World) (hb : Below wa.heap.size wa w') => (hb.block _ (lt_row row)).trans row)
    clear row bel
    obtain ⟨c0, c1, c2, c3, c4, c5, c6, c7, c8, c9⟩ := CX.out wa (Below.refl _ _)
    go_wp2_with fail
    with_reducible refine (TO.out wa (HL.out.later BEL.out)).mono ?_
    rintro e w2 ⟨L', rfl, hL2, hb2⟩
    have H2 := Lib.hid hb2
    have L2 := Lib.hid hL2
    clear hb2 hL2 c0 c1 c2 c3 c4 c5 c6 c7 c8 c9 TO
    go_wp2_with fail
    with_reducible refine (PPH.out w2 L' L2.out (TB.out.later (BEL.out.trans (H2.out.mono BEL.out.size)))).mono ?_
    rintro e w3 ⟨ab, cb, rfl, hba, hcb, hcbm, hb3⟩
    have H3 := Lib.hid (H2.out.trans (hb3.mono H2.out.size))
    have BA := Lib.hid hba
    clear hba hb3 PPH L2 TB
    go_wp2_with fail
    with_reducible refine (heads_any w3).mono ?_
    rintro e w4 ⟨rfl, hb4⟩
    have H4 := Lib.hid (H3.out.trans (hb4.mono H3.out.size))
    have BA4 := Lib.hid (bytesIn_later BA.out hb4)
    have hsu := su.out
    clear hb4 BA H2 H3
    obtain ⟨c0, c1, c2, c3, c4, c5, c6, c7, c8, c9⟩ := CX.out w4 H4.out
    clear c1 c2 c3 c4 c5 c6 c7 c8 c9
    go_upto_region 7 with (fail)
    clear hsu c0 su hrc
    have E1 := Lib.hid (Own.empty (B := w4.heap.size) (bx X) w4 (Nat.le_refl _))
    have hal := (Below.refl w4.heap.size w4).alloc (Nat.le_refl _) (.cells #[] 5)
    have AL := Lib.hid hal
    have S1 := Lib.hid (src_in (bytesIn_later BA4.out hal) cb)
    have RS := Lib.hid (fun (w' : World) (h : Below w4.heap.size w4 w') => src_in (bytesIn_none w' rf) 0)
    clear hal
    go_upto_region 8 with (first
      | (at_builtin; refine wpList_append_bytes (o := ⟨some 44, _, _, _, _, _⟩) rfl _ _ 26 rfl rfl rfl E1.out S1.out (by omega) ?_; intro v5 w5 ho5 hg5; rw [Nat.zero_add] at ho5; have O5 := Lib.hid ho5; have G5 := Lib.hid (AL.out.trans (hg5.below E1.out)); clear ho5 hg5)
      | (at_builtin; refine wpList_append_bytes (o := ⟨some 46, _, _, _, _, _⟩) rfl _ _ 26 rfl rfl rfl O5.out (RS.out _ G5.out) (by omega) ?_; intro v6 w6 ho6 hg6; have O6 := Lib.hid ho6; have G6 := Lib.hid (G5.out.trans (hg6.below O5.out)); clear ho6 hg6)
      | fail)
    obtain ⟨a6, k6, rfl, hc6, hcm6, hb6⟩ := O6.out.asIn
    have B6 := Lib.hid hb6
    have H6 := Lib.hid (H4.out.trans (G6.out.mono H4.out.size))
    have GT := Lib.hid (GET.out (joinb (joinb (bx X) 0 (bx X)) n rf) (fun i hi => by unfold joinb; rw [if_pos (by omega), if_neg (by omega), Nat.sub_zero]) a6 k6 w6 B6.out hc6 hcm6)
    have GT : Hid (Calls Tryd.prog 37 #[.slice a6 n k6, .int .i64 (D.size : Int)] w6 (GotPost ⟨5, v, D, S, T, l, G, n, n, 0⟩ w6)) := GT
    clear hb6 O5 O6 G5 G6 E1 S1 RS AL BA4 H4 HR GET
    obtain ⟨c0, c1, c2, c3, c4, c5, c6, c7, c8, c9⟩ := CX.out w6 H6.out
    clear c0 c1 c3 c4 c5 c6 c7 c8 c9
    go_upto_region 8 with (fail)
    go_wp2_with fail
    with_reducible refine GT.out.mono ?_
    rintro e w7 ⟨aL, cL, rfl, _, hI7, hb7⟩
    have I7 := Lib.hid hI7
    have H7 := Lib.hid (H6.out.trans (hb7.mono H6.out.size))
    clear hI7 hb7 c2
    dsimp only [Got.header]
    unfold hdC
    skip
    iterate 16 go_step
    refine wpList_alloc_row rfl 66 rfl _ hd_zero ?_
    simp only [Act.put, List.setIfInBounds_toArray, List.set_cons_succ, List.set_cons_zero]
    refine wpList_store_row rfl 66 (.tmp 8) (.tmp 53) rfl w7.heap.size 66 _ (hdC 5 v D S T l 0 0 false (.slice aL G.length cL)) rfl rfl (heap_alloc_last _ _) rfl (by kernel_rfl) (hdC_one' _ _ _ _ _ _ _ _ _ _ _ _) ?_
    intro w8 rs
    simp only [Act.put, List.setIfInBounds_toArray, List.set_cons_succ, List.set_cons_zero]
    have R8 := Lib.hid rs.row
    have I8 := Lib.hid (I7.out.later (((Below.refl w7.heap.size w7).alloc (Nat.le_refl _) _).trans (rs.below w7.heap.size (Nat.le_refl _))))
    have H8 := Lib.hid (H7.out.trans ((((Below.refl w7.heap.size w7).alloc (Nat.le_refl _) _).trans (rs.below w7.heap.size (Nat.le_refl _))).mono H7.out.size))
    clear rs
    clear GT I7 B6 H6 H7
    have Q8 := lt_row R8.out
    obtain ⟨c0, c1, c2, c3, c4, c5, c6, c7, c8, c9⟩ := CX.out w8 H8.out
    go_upto_region 11 with (fail)
    iterate 4 go_step
    refine wpList_alloc_row rfl 63 rfl _ refhd_zero ?_
    simp only [Act.put, List.setIfInBounds_toArray, List.set_cons_succ, List.set_cons_zero]
    refine wpList_store_row rfl 63 (.tmp 11) (.tmp 72) rfl w8.heap.size 63 _ (hdC 5 v D S T l N (z : Int) ph (.slice a G.length c)) rfl rfl (heap_alloc_last _ _) rfl (by kernel_rfl) (hdC_one' _ _ _ _ _ _ _ _ _ _ _ _) ?_
    intro w9 rs
    simp only [Act.put, List.setIfInBounds_toArray, List.set_cons_succ, List.set_cons_zero]
    have R9 := Lib.hid rs.row
    have G9 := Lib.hid (((Below.refl w8.heap.size w8).alloc (Nat.le_refl _) _).trans (rs.below w8.heap.size (Nat.le_refl _)))
    clear rs c0 c1 c2 c3 c4 c5 c6 c7 c8 c9
    have r9 := R9.out
    unfold hdC at r9
    obtain ⟨c0, c1, c2, c3, c4, c5, c6, c7, c8, c9⟩ := cells10 r9
    have f6 : w9.frozen? ⟨w8.heap.size, 6, none⟩ = false := frozen_of_row _ _ _ _ _ r9
    have f7 : w9.frozen? ⟨w8.heap.size, 7, none⟩ = false := frozen_of_row _ _ _ _ _ r9
    have f8 : w9.frozen? ⟨w8.heap.size, 8, none⟩ = false := frozen_of_row _ _ _ _ _ r9
    clear c0 c1 c2 c3 c4 c5 c9 r9
    go_upto_region 13 with (fail)
    clear c6 c7 c8 f6 f7 f8
    have s6 := rowSet_cell w9 w8.heap.size 6 _ _ (.int .i64 0) R9.out
    have s7 := rowSet_cell _ w8.heap.size 7 _ _ (.int .i64 0) s6.row
    have s8 := rowSet_cell _ w8.heap.size 8 _ _ (.bool false) s7.row
    have R10 := Lib.hid s8.row
    have G10 := Lib.hid (((G9.out.trans (s6.below _ (Nat.le_refl _))).trans (s7.below _ (Nat.le_refl _))).trans (s8.below _ (Nat.le_refl _)))
    clear s6 s7 s8 R9 G9
    generalize World.setCell _ _ _ = w10 at *
    have H10 := Lib.hid (H8.out.trans (G10.out.mono H8.out.size))
    have R8b := Lib.hid ((G10.out.block _ Q8).trans R8.out)
    have I10 := Lib.hid (I8.out.later G10.out)
    have HL10 := Lib.hid (HL.out.later (BEL.out.trans (H10.out.mono BEL.out.size)))
    have q8 := lt_row R8b.out
    have q10 := lt_row R10.out
    clear R8 I8 H8 HL G10 Q8
    refine region_class1 8 (fun w' => Below w10.heap.size w10 w') mixedOrders (by kernel_rfl) (Below.refl _ _).drew rfl ?_
    refine wpQuiet_take (by rfl) (fun K hK => ⟨.int .i64 0, fun w2' hw2 => ?_, hK _ ?_⟩)
    · clear hw2; go_simp
    clear hK K
    simp only [Act.put, List.setIfInBounds_toArray, List.set_cons_succ, List.set_cons_zero]
    refine wpQuiet_take (by rfl) (fun K hK => ⟨.bool false, fun w2' hw2 => ?_, hK _ ?_⟩)
    · clear hw2; go_simp
    clear hK K
    simp only [Act.put, List.setIfInBounds_toArray, List.set_cons_succ, List.set_cons_zero]
    refine wpQuiet_take (by rfl) (fun K hK => ⟨.bool false, fun w2' hw2 => ?_, hK _ ?_⟩)
    · clear hw2; go_simp
    clear hK K
    simp only [Act.put, List.setIfInBounds_toArray, List.set_cons_succ, List.set_cons_zero]
    refine wpQuiet_take (by rfl) (fun K hK => ⟨.agg #[.int .i64 5, .int .i64 v, .string D, .string S, .string T, .int .i64 l, .int .i64 0, .int .i64 0, .bool false, .slice aL G.length cL], fun w2' hw2 => ?_, hK _ ?_⟩)
    · obtain ⟨d0, d1, d2, d3, d4, d5, d6, d7, d8, d9⟩ := cells10 ((hw2.block _ q8).trans R8b.out)
      clear hw2
      go_simp
    clear hK K
    simp only [Act.put, List.setIfInBounds_toArray, List.set_cons_succ, List.set_cons_zero]
    refine wpQuiet_take (by rfl) (fun K hK => ⟨.agg #[.int .i64 5, .int .i64 v, .string D, .string S, .string T, .int .i64 l, .int .i64 0, .int .i64 0, .bool false, .slice aL G.length cL], fun w2' hw2 => ?_, hK _ ?_⟩)
    · go_simp
      go_at_call 39
      refine (FA.out aL cL w2').mono ?_
      rintro e w5 ⟨rfl, hb5⟩
      exact ⟨rfl, hw2.trans (hb5.mono hw2.size)⟩
    clear hK K
    simp only [Act.put, List.setIfInBounds_toArray, List.set_cons_succ, List.set_cons_zero]
    refine wpQuiet_take (by rfl) (fun K hK => ⟨.agg #[.int .i64 5, .int .i64 v, .string D, .string S, .string T, .int .i64 l, .int .i64 0, .int .i64 0, .bool false, .slice a G.length c], fun w2' hw2 => ?_, hK _ ?_⟩)
    · obtain ⟨d0, d1, d2, d3, d4, d5, d6, d7, d8, d9⟩ := cells10 ((hw2.block _ q10).trans R10.out)
      clear hw2
      go_simp
    clear hK K
    simp only [Act.put, List.setIfInBounds_toArray, List.set_cons_succ, List.set_cons_zero]
    refine wpQuiet_take (by rfl) (fun K hK => ⟨.bool true, fun w2' hw2 => ?_, hK _ ?_⟩)
    · go_simp
      go_at_call 38
      refine (SY.out aL a cL c w2' (I10.out.later hw2) (HL10.out.later hw2)).mono ?_
      rintro e w5 ⟨rfl, hb5⟩
      exact ⟨rfl, hw2.trans (hb5.mono hw2.size)⟩
    clear hK K
    simp only [Act.put, List.setIfInBounds_toArray, List.set_cons_succ, List.set_cons_zero]
    refine wpQuiet_take (by rfl) (fun K hK => ⟨.bool false, fun w2' hw2 => ?_, hK _ ?_⟩)
    · clear hw2; go_simp
    clear hK K
    simp only [Act.put, List.setIfInBounds_toArray, List.set_cons_succ, List.set_cons_zero]
    refine wpQuiet_take0 ?_
    intro w11 hb11
    have H11 := Lib.hid (H10.out.trans (hb11.mono H10.out.size))
    clear hb11 H10 R8b I10 HL10 R10 q8 q10
    obtain ⟨c0, c1, c2, c3, c4, c5, c6, c7, c8, c9⟩ := CX.out w11 H11.out
    clear c1 c2 c3 c4 c6 c8 c9
    skip
    all_goals
      go_wp2_with fail
      go_ret
      exact ⟨by simp, BEL.out.trans (H11.out.mono BEL.out.size)⟩
end Go.Proofs.YtjbpjoondmcnlaaDoor
namespace Go.Proofs.YtjbpjoondmcnlaaDoor
open Go Go.RowKit Go.BigFrame
set_option linter.unusedSimpArgs false
set_option linter.unusedVariables false
set_option maxRecDepth 100000
set_option maxHeartbeats 16000000 in
theorem back_X (k v l N z : Int) (D S : ByteArray) (tf : Nat → BitVec 8) (nt : Nat) (ph : Bool) (a : Option Addr) (c : Nat) (G : List Int) (w : World) (hL : IntsIn w (.slice a G.length c) G) (hG : G.length ≤ 20000000000000)
    (ra : Option Addr) (rl rc : Nat) (rf : Nat → BitVec 8) (hR : BytesIn w ra rl rf) (hrc : rl ≤ rc) (hrm : rc ≤ maxLen) (tab : Tab w)
    (hbad : ¬ (inB G D.size S.size nt v l N z ∧ inF k v l N z S.size nt G.length ph)) :
    Calls Tryd.prog 11 #[.agg (hdC k v D S (strOf tf nt) l N z ph (.slice a G.length c)), .slice ra rl rc] w fun e w' => e = .returned (.bool true) ∧ Below w.heap.size w w' := by
  have PPH := Lib.hid (fun (w' : World) (a' : Option Addr) (c' : Nat) (hL' : IntsIn w' (.slice a' G.length c') G) => put_bad k v l N z D S (strOf tf nt) D.size S.size nt rfl rfl (strOf_size _ _) ph a' c' G w' hL' hbad)
  have TO := Lib.hid (fun (w' : World) (h : IntsIn w' (.slice a G.length c) G) => to_any k v l N z D S (strOf tf nt) ph a c G w' h hG)
  have HL := Lib.hid hL
  generalize strOf tf nt = T at *
  clear hL tab hR hbad
  unfold hdC at PPH TO ⊢
  go_enter Tryd.func11, Tryd.ntmps11
  have row := heap_alloc_last w (.cells #[.int .i64 k, .int .i64 v, .string D, .string S, .string T, .int .i64 l, .int .i64 N, .int .i64 z, .bool ph, .slice a G.length c] 63)
  have bel := (Below.refl w.heap.size w).alloc (Nat.le_refl _) (.cells #[.int .i64 k, .int .i64 v, .string D, .string S, .string T, .int .i64 l, .int .i64 N, .int .i64 z, .bool ph, .slice a G.length c] 63)
  go_upto_region 1 with (fail)
  generalize w.alloc _ = wa at *
  have BEL := Lib.hid bel
  obtain ⟨c0, c1, c2, c3, c4, c5, c6, c7, c8, c9⟩ := cells10 row
  clear row bel
  go_wp2_with fail
  with_reducible refine (TO.out wa (HL.out.later BEL.out)).mono ?_
  rintro e w2 ⟨L', rfl, hL2, hb2⟩
  have H2 := Lib.hid hb2
  obtain ⟨a2, k2, rfl, hx⟩ := hL2.at_
  have L2 := Lib.hid hL2
  clear hb2 hL2 hx c0 c1 c2 c3 c4 c5 c6 c7 c8 c9 TO
  go_wp2_with fail
  with_reducible refine (PPH.out w2 a2 k2 L2.out).mono ?_
  rintro e w3 ⟨rfl, hb3⟩
  have H3 := Lib.hid (H2.out.trans (hb3.mono H2.out.size))
  clear hb3 PPH L2
  go_wp2_with fail
  with_reducible refine (heads_any w3).mono ?_
  rintro e w4 ⟨rfl, hb4⟩
  have H4 := Lib.hid (H3.out.trans (hb4.mono H3.out.size))
  clear hb4
  go_wp2_with fail
  with_reducible refine (heads_any w4).mono ?_
  rintro e w5 ⟨rfl, hb5⟩
  have H5 := Lib.hid (H4.out.trans (hb5.mono H4.out.size))
  clear hb5
  go_wp2_with fail
  go_ret
  exact ⟨by simp, BEL.out.trans (H5.out.mono BEL.out.size)⟩
end Go.Proofs.YtjbpjoondmcnlaaDoor
