/-
  THE DOCUMENT's Get, OF ALL BYTES.
  THE LAW PacketGets.
  ARRAYS OF BYTES THAT CAME IN, by value, alone or in a struct.
-/
import Derived.Test.YtcgbhcmgddgheaaDoorRdZc
import Derived.Test.YtcgbhcmgddgheaaDoorRdL
import Derived.Test.YtcgbhcmgddgheaaDoorRdZb
import Derived.Test.YtcgbhcmgddgheaaDoorRdP
import Derived.Test.YtcgbhcmgddgheaaDoorRdQ
import Derived.Test.YtcgbhcmgddgheaaDoorRdR
import Derived.Test.YtcgbhcmgddgheaaDoorRdTa
import Derived.Test.YtcgbhcmgddgheaaDoorRdTb
import Derived.Test.YtcgbhcmgddgheaaDoorRowIn
import Derived.Test.YtcgbhcmgddgheaaDoorKit
namespace Go.Proofs.YtcgbhcmgddgheaaDoor
open Go Go.RowKit Go.BigFrame
set_option linter.unusedSimpArgs false
set_option linter.unusedVariables false
theorem docGet_any (f : Nat → BitVec 8) (len : Nat) (own : Int) (w : World) (hm : len ≤ 9223372036854775807) :
    Calls Tryd.prog 36 #[.string (strOf f len), .int .i64 own] w (GotPost (getP f len own) w) := by
  by_cases ho : 0 ≤ own ∧ own ≤ 20
  rotate_left
  · exact docGet_short f len own w hm (.inl ho)
  by_cases hl0 : len = 0
  · exact docGet_short f len own w hm (.inr (.inl hl0))
  by_cases hF : (f 0).toNat < 128
  · exact docGet_short f len own w hm (.inr (.inr hF))
  by_cases h5 : len < 5
  · exact docGet_few f len own w hm ho (by omega) (by omega) h5
  have hl1 : 5 ≤ len := by omega
  by_cases hV : numG (fun i => f (1 + i)) 4 = 0
  · by_cases hnb : nmR (len - 5) (f 5).toNat = 0 ∧ nmR (len - (5 + 1 + (f 5).toNat)) (f (5 + 1 + (f 5).toNat)).toNat = 0
    · by_cases h192 : (f 0).toNat < 192
      · exact docGet_v_lo f len own w hm ho hl1 (by omega) h192 hV (Lib.hid hnb.1) (Lib.hid hnb.2)
      · exact docGet_v_hi f len own w hm ho hl1 (by omega) (by omega) hV (Lib.hid hnb.1) (Lib.hid hnb.2)
    · by_cases h192 : (f 0).toNat < 192
      · exact docGet_vn_lo f len own w hm ho hl1 (by omega) h192 hV hnb
      · exact docGet_vn_hi f len own w hm ho hl1 (by omega) (by omega) hV hnb
  by_cases h192 : (f 0).toNat < 192
  · exact docGet_form f len own w hm ho hl1 (by omega) h192 hV
  have hF9 : 192 ≤ (f 0).toNat := by omega
  by_cases hnb : nmR (len - 5) (f 5).toNat = 0 ∧ nmR (len - (5 + 1 + (f 5).toNat)) (f (5 + 1 + (f 5).toNat)).toNat = 0
  rotate_left
  · exact docGet_names f len own w hm ho hl1 hF9 hV hnb
  by_cases h3 : (f 0).toNat / 16 % 4 = 3
  · exact docGet_3 f len own w hm ho hl1 hF9 hV (Lib.hid hnb.1) (Lib.hid hnb.2) (Lib.hid h3)
  by_cases h0 : (f 0).toNat / 16 % 4 = 0
  rotate_left
  · exact docGet_x f len own w hm ho hl1 hF9 hV (Lib.hid hnb.1) (Lib.hid hnb.2) (Lib.hid h3) (Lib.hid h0)
  by_cases hc : ctG len f (5 + 1 + (f 5).toNat + 1 + (f (5 + 1 + (f 5).toNat)).toNat) = true ∧ ¬ 512 < getV (fun i => f (5 + 1 + (f 5).toNat + 1 + (f (5 + 1 + (f 5).toNat)).toNat + i)) (len - (5 + 1 + (f 5).toNat + 1 + (f (5 + 1 + (f 5).toNat)).toNat)) ∧
      ¬ len - (5 + 1 + (f 5).toNat + 1 + (f (5 + 1 + (f 5).toNat)).toNat + getK (fun i => f (5 + 1 + (f 5).toNat + 1 + (f (5 + 1 + (f 5).toNat)).toNat + i)) (len - (5 + 1 + (f 5).toNat + 1 + (f (5 + 1 + (f 5).toNat)).toNat))) < getV (fun i => f (5 + 1 + (f 5).toNat + 1 + (f (5 + 1 + (f 5).toNat)).toNat + i)) (len - (5 + 1 + (f 5).toNat + 1 + (f (5 + 1 + (f 5).toNat)).toNat))
  · exact docGet_0b f len own w hm ho hl1 hF9 hV (Lib.hid hnb.1) (Lib.hid hnb.2) (Lib.hid h0) (Lib.hid (fun p e => by subst e; exact hc))
  · exact docGet_0a f len own w hm ho hl1 hF9 hV (Lib.hid hnb.1) (Lib.hid hnb.2) (Lib.hid h0) (Lib.hid (fun p e => by subst e; exact hc))
end Go.Proofs.YtcgbhcmgddgheaaDoor
namespace Go.Proofs.YtcgbhcmgddgheaaDoor
open Go Go.RowKit Go.BigFrame
set_option linter.unusedSimpArgs false
set_option linter.unusedVariables false
set_option maxRecDepth 100000
set_option maxHeartbeats 16000000 in
theorem gets_law (f : Nat → BitVec 8) (a : Option Addr) (len cap : Nat) (own : Int) (w : World) (hB : BytesIn w a len f) (hlc : len ≤ cap) (hcm : cap ≤ maxLen) :
    Calls Tryd.prog 10 #[.slice a len cap, .int .i64 own] w fun e w' => e = .returned (.bool true) ∧ Below w.heap.size w w' := by
  have hm : len ≤ 9223372036854775807 := by unfold maxLen at hcm; omega
  have HA := Lib.hid (fun (w' : World) => heads_any w')
  by_cases h5 : 5000 < len
  · have h5I : (5000 : Int) < (len : Int) := by omega
    clear hB
    go_enter Tryd.func10, Tryd.ntmps10
    go_wp2_with fail
    with_reducible refine (HA.out w).mono ?_
    rintro e w1 ⟨rfl, hb1⟩
    go_wp2_with fail
    go_ret
    exact ⟨rfl, hb1⟩
  have h5I : ¬ (5000 : Int) < (len : Int) := by omega
  have cv := conv_in f a len cap w hB
  have DG := Lib.hid (docGet_any f len own w hm)
  have PG := Lib.hid (fun (w' : World) (hb : Below w.heap.size w w') => get_packet f a len cap own w' (bytesIn_later hB hb) hlc hcm)
  obtain ⟨R, hR⟩ : ∃ R, getP f len own = R := ⟨_, rfl⟩
  rw [hR] at DG PG
  obtain ⟨k, v, D, S, T, l, G, at_, en, er⟩ := R
  generalize strOf f len = s at *
  clear hB hR hlc hcm hm h5
  go_enter Tryd.func10, Tryd.ntmps10
  go_upto_region 3 with (fail)
  go_wp2_with fail
  with_reducible refine DG.out.mono ?_
  rintro e w1 ⟨a1, c1, rfl, hn1, hi1, hb1⟩
  have I1 := Lib.hid hi1
  have B1 := Lib.hid hb1
  clear hi1 hb1 hn1 DG cv
  dsimp only [Got.header] at *
  unfold hdC
  obtain ⟨m, hm⟩ : ∃ m, G.length = m := ⟨_, rfl⟩
  have HM := Lib.hid hm
  rw [hm]
  have row1 := heap_alloc_last w1 (.cells #[.int .i64 k, .int .i64 v, .string D, .string S, .string T, .int .i64 l, .int .i64 0, .int .i64 0, .bool false, .slice a1 m c1] 63)
  have bel1 := (Below.refl w1.heap.size w1).alloc (Nat.le_refl _) (.cells #[.int .i64 k, .int .i64 v, .string D, .string S, .string T, .int .i64 l, .int .i64 0, .int .i64 0, .bool false, .slice a1 m c1] 63)
  go_upto_region 4 with (fail)
  generalize w1.alloc _ = w2 at *
  have R2 := Lib.hid row1
  have B2 := Lib.hid (B1.out.trans (bel1.mono B1.out.size))
  have I2 := Lib.hid (I1.out.later bel1)
  clear row1 bel1 hm I1
  go_wp2_with fail
  with_reducible refine (PG.out w2 B2.out).mono ?_
  rintro e w3 ⟨a3, c3, rfl, hn3, hi3, hb3⟩
  have I3 := Lib.hid hi3
  have B3 := Lib.hid (B2.out.trans (hb3.mono B2.out.size))
  have R3 := Lib.hid ((hb3.block _ (lt_row R2.out)).trans R2.out)
  have I2' := Lib.hid (I2.out.later hb3)
  clear hi3 hb3 hn3 PG
  dsimp only [Got.header] at *
  unfold hdC
  rw [HM.out]
  have row3 := heap_alloc_last w3 (.cells #[.int .i64 k, .int .i64 v, .string D, .string S, .string T, .int .i64 l, .int .i64 0, .int .i64 0, .bool false, .slice a3 m c3] 66)
  have bel3 := (Below.refl w3.heap.size w3).alloc (Nat.le_refl _) (.cells #[.int .i64 k, .int .i64 v, .string D, .string S, .string T, .int .i64 l, .int .i64 0, .int .i64 0, .bool false, .slice a3 m c3] 66)
  go_upto_region 5 with (fail)
  generalize w3.alloc _ = w4 at *
  have R4 := Lib.hid row3
  have B4 := Lib.hid (B3.out.trans (bel3.mono B3.out.size))
  have R4' := Lib.hid ((bel3.block _ (lt_row R3.out)).trans R3.out)
  have SY := Lib.hid (fun (w' : World) (hb : Below w4.heap.size w4 w') => same_yes k v l 0 0 D S T false a1 a3 c1 c3 G w' ((I2'.out.later bel3).later hb) ((I3.out.later bel3).later hb))
  have FY := Lib.hid (fun (w' : World) => from_any k v l 0 0 D S T false a3 m c3 w')
  rw [HM.out] at SY
  unfold hdC at SY FY
  clear row3 bel3
  refine region_class1 22 (fun w' => Below w4.heap.size w4 w') mixedOrders (by kernel_rfl) (Below.refl _ _).drew rfl ?_
  refine wpQuiet_take (by rfl) (fun K hK => ⟨.bool true, fun w2' hw2 => ?_, hK _ ?_⟩)
  · go_simp
    go_at_call 35
    with_reducible refine (HA.out w2').mono ?_
    rintro e w5 ⟨rfl, hb5⟩
    exact ⟨rfl, hw2.trans (hb5.mono hw2.size)⟩
  clear hK K
  simp only [Act.put, List.setIfInBounds_toArray, List.set_cons_succ, List.set_cons_zero]
  refine wpQuiet_take (by rfl) (fun K hK => ⟨.bool true, fun w2' hw2 => ?_, hK _ ?_⟩)
  · clear hw2; go_simp
  clear hK K
  simp only [Act.put, List.setIfInBounds_toArray, List.set_cons_succ, List.set_cons_zero]
  refine wpQuiet_take (by rfl) (fun K hK => ⟨.agg #[.int .i64 k, .int .i64 v, .string D, .string S, .string T, .int .i64 l, .int .i64 0, .int .i64 0, .bool false, .slice a1 m c1], fun w2' hw2 => ?_, hK _ ?_⟩)
  · obtain ⟨d0, d1, d2, d3, d4, d5, d6, d7, d8, d9⟩ := cells10 ((hw2.block _ (lt_row R4'.out)).trans R4'.out)
    go_simp
  clear hK K
  simp only [Act.put, List.setIfInBounds_toArray, List.set_cons_succ, List.set_cons_zero]
  refine wpQuiet_take (by rfl) (fun K hK => ⟨.agg #[.int .i64 k, .int .i64 v, .string D, .string S, .string T, .int .i64 l, .int .i64 0, .int .i64 0, .bool false, .slice a3 m c3], fun w2' hw2 => ?_, hK _ ?_⟩)
  · obtain ⟨d0, d1, d2, d3, d4, d5, d6, d7, d8, d9⟩ := cells10 ((hw2.block _ (lt_row R4.out)).trans R4.out)
    go_simp
  clear hK K
  simp only [Act.put, List.setIfInBounds_toArray, List.set_cons_succ, List.set_cons_zero]
  refine wpQuiet_take (by rfl) (fun K hK => ⟨.agg #[.int .i64 k, .int .i64 v, .string D, .string S, .string T, .int .i64 l, .int .i64 0, .int .i64 0, .bool false, .slice a3 m c3], fun w2' hw2 => ?_, hK _ ?_⟩)
  · go_simp
    go_at_call 39
    refine (FY.out w2').mono ?_
    rintro e w5 ⟨rfl, hb5⟩
    exact ⟨rfl, hw2.trans (hb5.mono hw2.size)⟩
  clear hK K
  simp only [Act.put, List.setIfInBounds_toArray, List.set_cons_succ, List.set_cons_zero]
  refine wpQuiet_take (by rfl) (fun K hK => ⟨.bool true, fun w2' hw2 => ?_, hK _ ?_⟩)
  · go_simp
    go_at_call 38
    refine (SY.out w2' hw2).mono ?_
    rintro e w5 ⟨rfl, hb5⟩
    exact ⟨rfl, hw2.trans (hb5.mono hw2.size)⟩
  clear hK K
  simp only [Act.put, List.setIfInBounds_toArray, List.set_cons_succ, List.set_cons_zero]
  refine wpQuiet_take (by rfl) (fun K hK => ⟨.bool true, fun w2' hw2 => ?_, hK _ ?_⟩)
  · clear hw2; go_simp
  clear hK K
  simp only [Act.put, List.setIfInBounds_toArray, List.set_cons_succ, List.set_cons_zero]
  refine wpQuiet_take (by rfl) (fun K hK => ⟨.bool true, fun w2' hw2 => ?_, hK _ ?_⟩)
  · clear hw2; go_simp
  clear hK K
  simp only [Act.put, List.setIfInBounds_toArray, List.set_cons_succ, List.set_cons_zero]
  refine wpQuiet_take (by rfl) (fun K hK => ⟨.int .i64 (at_ : Int), fun w2' hw2 => ?_, hK _ ?_⟩)
  · clear hw2; go_simp
  clear hK K
  simp only [Act.put, List.setIfInBounds_toArray, List.set_cons_succ, List.set_cons_zero]
  refine wpQuiet_take (by rfl) (fun K hK => ⟨.int .i64 (at_ : Int), fun w2' hw2 => ?_, hK _ ?_⟩)
  · clear hw2; go_simp
  clear hK K
  simp only [Act.put, List.setIfInBounds_toArray, List.set_cons_succ, List.set_cons_zero]
  refine wpQuiet_take (by rfl) (fun K hK => ⟨.bool true, fun w2' hw2 => ?_, hK _ ?_⟩)
  · clear hw2; go_simp
  clear hK K
  simp only [Act.put, List.setIfInBounds_toArray, List.set_cons_succ, List.set_cons_zero]
  refine wpQuiet_take (by rfl) (fun K hK => ⟨.bool true, fun w2' hw2 => ?_, hK _ ?_⟩)
  · clear hw2; go_simp
  clear hK K
  simp only [Act.put, List.setIfInBounds_toArray, List.set_cons_succ, List.set_cons_zero]
  refine wpQuiet_take (by rfl) (fun K hK => ⟨.bool true, fun w2' hw2 => ?_, hK _ ?_⟩)
  · clear hw2; go_simp
  clear hK K
  simp only [Act.put, List.setIfInBounds_toArray, List.set_cons_succ, List.set_cons_zero]
  refine wpQuiet_take (by rfl) (fun K hK => ⟨.int .i64 (en : Int), fun w2' hw2 => ?_, hK _ ?_⟩)
  · clear hw2; go_simp
  clear hK K
  simp only [Act.put, List.setIfInBounds_toArray, List.set_cons_succ, List.set_cons_zero]
  refine wpQuiet_take (by rfl) (fun K hK => ⟨.int .i64 (en : Int), fun w2' hw2 => ?_, hK _ ?_⟩)
  · clear hw2; go_simp
  clear hK K
  simp only [Act.put, List.setIfInBounds_toArray, List.set_cons_succ, List.set_cons_zero]
  refine wpQuiet_take (by rfl) (fun K hK => ⟨.bool true, fun w2' hw2 => ?_, hK _ ?_⟩)
  · clear hw2; go_simp
  clear hK K
  simp only [Act.put, List.setIfInBounds_toArray, List.set_cons_succ, List.set_cons_zero]
  refine wpQuiet_take (by rfl) (fun K hK => ⟨.bool true, fun w2' hw2 => ?_, hK _ ?_⟩)
  · clear hw2; go_simp
  clear hK K
  simp only [Act.put, List.setIfInBounds_toArray, List.set_cons_succ, List.set_cons_zero]
  refine wpQuiet_take (by rfl) (fun K hK => ⟨.bool true, fun w2' hw2 => ?_, hK _ ?_⟩)
  · clear hw2; go_simp
  clear hK K
  simp only [Act.put, List.setIfInBounds_toArray, List.set_cons_succ, List.set_cons_zero]
  refine wpQuiet_take (by rfl) (fun K hK => ⟨.int .i64 er, fun w2' hw2 => ?_, hK _ ?_⟩)
  · clear hw2; go_simp
  clear hK K
  simp only [Act.put, List.setIfInBounds_toArray, List.set_cons_succ, List.set_cons_zero]
  refine wpQuiet_take (by rfl) (fun K hK => ⟨.int .i64 er, fun w2' hw2 => ?_, hK _ ?_⟩)
  · clear hw2; go_simp
  clear hK K
  simp only [Act.put, List.setIfInBounds_toArray, List.set_cons_succ, List.set_cons_zero]
  refine wpQuiet_take (by rfl) (fun K hK => ⟨.bool true, fun w2' hw2 => ?_, hK _ ?_⟩)
  · clear hw2; go_simp
  clear hK K
  simp only [Act.put, List.setIfInBounds_toArray, List.set_cons_succ, List.set_cons_zero]
  refine wpQuiet_take (by rfl) (fun K hK => ⟨.bool true, fun w2' hw2 => ?_, hK _ ?_⟩)
  · clear hw2; go_simp
  clear hK K
  simp only [Act.put, List.setIfInBounds_toArray, List.set_cons_succ, List.set_cons_zero]
  refine wpQuiet_take0 ?_
  intro w12 b12
  have BEL12 := Lib.hid (B4.out.trans (b12.mono B4.out.size))
  clear b12
  go_wp2_with fail
  go_ret
  exact ⟨rfl, BEL12.out⟩
end Go.Proofs.YtcgbhcmgddgheaaDoor
namespace Go.Proofs.YtcgbhcmgddgheaaDoor
open Go Go.RowKit Go.ChangeShapes Go.WideShapes
theorem okWide_agg {P : Program} {w : World} {base : Nat} {t : TypeId} {v : Value} (h : (match P.underlying t with | some (.struct _) | some (.array _ _) => true | _ => false) = true) (hk : Value.okWide P w .any base t v) :
    ∃ cs, v = .agg cs ∧ cs.size = P.cellsOf t := by
  unfold Value.okWide at hk
  split at hk
  · obtain ⟨cs, h1, h2, _⟩ := hk; exact ⟨cs, h1, h2⟩
  · obtain ⟨cs, h1, h2, _⟩ := hk; exact ⟨cs, h1, h2⟩
  · rename_i h1 h2
    revert h
    split
    · rename_i f hf; exact absurd hf (h1 f)
    · rename_i a b hf; exact absurd hf (h2 a b)
    · intro h; cases h
/-- The bytes of an array's reading. -/
theorem trod_bytes {H : Type} {enc : TypeId × Value → H} {P : Program} {w : World} {base : Nat} {spare : Nat → Bool} {held : Bool} {fuel : Nat} {t e : TypeId} {n : Nat} {cs : List Value} {x : DataW H × List MemPlace}
    (ht : P.underlying t = some (.array n e)) (he : P.underlying e = some (.int .u8)) (hc : P.cellsOf e = 1) (h : DataW.trod enc P w base spare held fuel t cs = some x) :
    ∃ f : Nat → BitVec 8, ∀ i, i < n → cs[i]? = some (.int .u8 (n8 (f i))) := by
  obtain ⟨xs, m, _, _, _, hl, hf⟩ := DataW.trod_array ht h
  have key : ∀ i, i < n → ∃ z : Int, cs[i]? = some (.int .u8 z) ∧ (Lit.int .u8 z).wf = true := fun i hi => by
    have h1 := hf i hi
    rw [hc, Nat.mul_one, List.getElem?_eq_getElem (by omega)] at h1
    obtain ⟨z, h2, _, h3⟩ := DataW.trod_int he h1
    refine ⟨z, ?_, h3⟩
    have h4 : ((cs.drop i).take 1)[0]? = some (.int .u8 z) := by rw [h2]; rfl
    simpa using h4
  refine ⟨fun i => match cs[i]? with | some (.int _ z) => BitVec.ofInt 8 z | _ => 0#8, fun i hi => ?_⟩
  obtain ⟨z, h1, h2⟩ := key i hi
  simp only [h1]
  rw [← n8_of_wf z h2]
theorem bits_nat_eq (n : Nat) (h : n ≤ maxLen) : n ≤ 9223372036854775807 := by unfold maxLen at h; omega
end Go.Proofs.YtcgbhcmgddgheaaDoor
