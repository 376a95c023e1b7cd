/-
  'framed' of the statements: a message has its count ahead.
-/
import Derived.Test.YtgblfljbfaaipaaDoqD
namespace Go.Proofs.Ytgblfljbfaaipaa
open Go Go.RowKit Go.BigFrame
set_option linter.unusedSimpArgs false
set_option linter.unusedVariables false
set_option maxRecDepth 100000
theorem n97 : n8 97#8 = 97 := by unfold n8; rfl
theorem n98 : n8 98#8 = 98 := by unfold n8; rfl
theorem feed_02a (B r : Nat) (f : Nat → BitVec 8) (w : World) (h : Rdr B r (.slice none 0 0) false 0 f w) :
    Calls Try.prog 8 #[.pointer (some ⟨r, 0, none⟩), .string ⟨#[0, 2, 97]⟩] w fun e w' => e = .returned (.int .i64 0) ∧ ∃ v', Rdr B r v' false 3 (joinb f 0 a02F) w' ∧ TurnR B r (.slice none 0 0) v' w w' := by
  rw [lit_02a]
  refine (feed_ok B r 0 3 (.slice none 0 0) f a02F w h (by omega)).mono ?_
  rintro e w' ⟨rfl, v', h1, h2⟩
  exact ⟨rfl, v', h1, h2⟩
set_option maxHeartbeats 4000000 in
theorem framed_any (w : World) : Calls Try.prog 7 #[] w fun e w' => e = .returned (.bool true) ∧ Below w.heap.size w w' := by
  have B1 : Below w.heap.size w (w.alloc (.cells #[.int .u8 97, .int .u8 98] 5 (2, 3))) := (Below.refl _ _).alloc (Nat.le_refl _) _
  have in1 : BytesIn (w.alloc (.cells #[.int .u8 97, .int .u8 98] 5 (2, 3))) (some ⟨w.heap.size, 0, none⟩) 2 abF := ⟨by decide, .inr ⟨w.heap.size, 0, rfl, by simp, fun i hi => by
    rw [Nat.zero_add, cell_of_row _ _ _ _ _ _ (heap_alloc_last w _)]
    rcases (show i = 0 ∨ i = 1 by omega) with rfl | rfl
    · show some (Value.int .u8 97) = some (Value.int .u8 (n8 97#8))
      rw [n97]
    · show some (Value.int .u8 98) = some (Value.int .u8 (n8 98#8))
      rw [n98]⟩⟩
  have F1 := Lib.hid (frame_ok (some ⟨w.heap.size, 0, none⟩) 2 2 abF (by omega) (by omega) _ in1)
  have HB1 := Lib.hid B1
  have hcv := conv_same w #[.int .u8 97, .int .u8 98] 5 2 2
  rw [show (#[.int .u8 97, .int .u8 98] : Array Value).size = 2 from rfl] at hcv
  clear in1 B1
  go_enter Try.func7, Try.ntmps7
  go_upto_region 2 with (go_at_call 11; refine F1.out.mono ?_; rintro e w2 ⟨v1, rfl, ho, hb⟩; have O1 := Lib.hid ho; have B2 := Lib.hid (HB1.out.trans (hb.mono HB1.out.size)); clear ho hb)
  obtain ⟨a1, c1, rfl, _, _, _⟩ := O1.out.bytesIn
  have R3 := Rdr.made w.heap.size (fun _ => 0#8) w2 B2.out.size
  have O3 : OwnAt w.heap.size (.slice a1 4 c1) 4 (frF abF 2) (w2.alloc (.cells (rdC (.slice none 0 0) false) RT)) := (O1.out.weaken HB1.out.size).later ((Below.refl _ _).alloc (Nat.le_refl _) _)
  have A3 : Aside (.slice a1 4 c1) w2.heap.size (.slice none 0 0) (w2.alloc (.cells (rdC (.slice none 0 0) false) RT)) := fun k hk => by
    have := (O1.out.lt hk).2
    exact ⟨by simp; omega, by omega, fun h => by cases h⟩
  have B3 : Below w.heap.size w (w2.alloc (.cells (rdC (.slice none 0 0) false) RT)) := B2.out.alloc B2.out.size _
  go_upto_region 3 with (fail)
  have hW : (w2.alloc (.cells (rdC (.slice none 0 0) false) RT)) = w2.alloc (.cells #[.slice none 0 0, .bool false] 37) := rfl
  rw [hW] at R3 O3 A3 B3
  clear hW
  generalize w2.alloc _ = w3 at *
  generalize w2.heap.size = r at *
  have HR3 := Lib.hid R3; have HO3 := Lib.hid O3; have HA3 := Lib.hid A3; have HB3 := Lib.hid B3
  clear R3 O3 A3 B3 F1 HB1 O1 B2
  go_upto_region 4 with (go_at_call 8; refine (feed_02a _ _ _ _ HR3.out).mono ?_; rintro e w4 ⟨rfl, v4, h4, t4⟩; have HR4 := Lib.hid h4; have HT4 := Lib.hid t4; clear h4 t4)
  have HO4 := Lib.hid (HO3.out.turn HA3.out HT4.out)
  have HA4 := Lib.hid (HA3.out.turn HT4.out)
  have HB4 := Lib.hid (HB3.out.trans HT4.out.below)
  clear HR3 HO3 HA3 HB3 HT4
  go_upto_region 5 with (go_at_call 6; refine (next_none _ _ 3 _ _ _ _ HR4.out (by omega) (by omega) (.inr (by rw [cnt_02a]; omega))).mono ?_; rintro e w5 ⟨rfl, h5, t5⟩; have HR5 := Lib.hid h5; have HT5 := Lib.hid t5; clear h5 t5)
  have HO5 := Lib.hid (HO4.out.turn HA4.out HT5.out)
  have HB5 := Lib.hid (HB4.out.trans HT5.out.below)
  clear HR4 HO4 HA4 HB4 HT5
  obtain ⟨a5, c5, e5, in5, _, _⟩ := HO5.out.bytesIn
  obtain ⟨rfl, rfl⟩ : a1 = a5 ∧ c1 = c5 := by injection e5 with e1 e2 e3; exact ⟨e1, e3⟩
  have cv := conv_in _ _ 4 c1 w5 in5
  rw [frame_ab] at cv
  clear in5 e5
  go_wp2_with (go_at_call 9; refine (end_any _ _ 3 _ _ _ _ HR5.out).mono ?_; rintro e w6 ⟨rfl, h6, t6⟩; have HB6 := Lib.hid (HB5.out.trans t6.below); clear h6 t6)
  go_ret
  exact ⟨rfl, HB6.out⟩
end Go.Proofs.Ytgblfljbfaaipaa
