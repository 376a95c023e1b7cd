/-
  GCM's TEST BY NOUGHTS, and a letter that came in.
-/
import Derived.Test.YtoocglckhphepaaGcmJ
import Derived.Test.YtoocglckhphepaaTrod
namespace Go.Proofs.Ytoocglckhphepaa
open Go Go.RowKit Go.BigFrame Go.ChangeShapes Go.WideShapes
set_option maxRecDepth 100000
set_option linter.unusedSimpArgs false
def noughts (_ : Nat) : BitVec 8 := 0#8
theorem seal0 : sealF (sched noughts) (hOf (sched noughts)) noughts noughts 0 noughts 0 0 = 0x58#8 := by decide +kernel
theorem seal15 : sealF (sched noughts) (hOf (sched noughts)) noughts noughts 0 noughts 0 15 = 0x5A#8 := by decide +kernel
theorem run_make12 (w : World) : (Instr.makeSlice 25 (.int .i64 12) (.int .i64 12)).run Try.prog w = .ok (.slice (some ⟨w.heap.size, 0, none⟩) 12 12) (w.alloc (.cells (bytesArr (fun _ => 0#8) 12) 5)) := run_make_bytes 12 (by omega) w
theorem in_none (w : World) (f : Nat → BitVec 8) : BytesIn w none 0 f := ⟨Nat.zero_le _, .inl rfl⟩
theorem new_noughts (w : World) : Calls Try.prog 9 #[.slice (some ⟨w.heap.size, 0, none⟩) 16 16] (w.alloc (.cells (bytesArr (fun _ => 0#8) 16) 5)) fun e w' =>
    ∃ p q, e = .returned (.tuple #[.pointer (some ⟨p, 0, none⟩), .int .i64 0]) ∧ Below w.heap.size w w' ∧ BoxAt w' p q (sched noughts) (hOf (sched noughts)) := by
  refine (gnew_ok noughts w.heap.size 0 16 _ (fun i hi => by rw [Nat.zero_add, cell_of_row _ _ _ _ _ _ (heap_alloc_last w _)]; exact bytesArr_get _ _ _ hi) (by simp)).mono ?_
  rintro e w' ⟨p, q, rfl, hp, hb, hx⟩
  exact ⟨p, q, rfl, ((Below.refl w.heap.size w).alloc (Nat.le_refl _) _).trans (hb.mono (by simp)), hx⟩
set_option maxHeartbeats 4000000 in
theorem sealed_any (w : World) : Calls Try.prog 7 #[] w fun e w' => e = .returned (.bool true) ∧ Below w.heap.size w w' := by
  go_enter Try.func7, Try.ntmps7
  have mk := run_make16
  go_wp2_with fail
  refine (new_noughts w).mono ?_
  rintro e w1 ⟨p, q, rfl, hb1, bx⟩
  clear mk
  have mk := run_make12
  go_wp2_with fail
  clear mk
  have hb2 := hb1.alloc hb1.size (.cells (bytesArr (fun _ => 0#8) 12) 5)
  have bx2 := bx.later ((Below.refl w1.heap.size w1).alloc (Nat.le_refl _) (.cells (bytesArr (fun _ => 0#8) 12) 5))
  refine (gseal_ok p q (sched noughts) (hOf (sched noughts)) noughts noughts noughts w1.heap.size 0 12 none none 0 0 0 0 _ bx2 (fun i hi => by rw [Nat.zero_add, cell_of_row _ _ _ _ _ _ (heap_alloc_last w1 _)]; exact bytesArr_get _ _ _ hi) (by simp) (in_none _ _) (Nat.le_refl _) (Nat.zero_le _) (in_none _ _) (by omega)).mono ?_
  rintro e w2 ⟨v, rfl, own, hb3⟩
  obtain ⟨g, cap, rfl, hcap, hcm, hin⟩ := own.bytesIn (by omega)
  have HL := Lib.hid (hb2.trans (hb3.mono hb2.size))
  obtain h0 | ⟨b, o, he, hlt, hc⟩ := hin.2
  · omega
  cases he
  have c0 := hc 0 (by omega)
  have c15 := hc 15 (by omega)
  rw [seal0] at c0
  rw [seal15] at c15
  rw [show n8 0x58#8 = 88 by unfold n8; rfl] at c0
  rw [show n8 0x5A#8 = 90 by unfold n8; rfl] at c15
  clear hc own hb3 hb2 bx2 bx hin
  simp only [Nat.zero_add, Nat.add_zero] at c0 c15
  go_wp2_with fail
  go_ret
  exact ⟨rfl, HL.out⟩
end Go.Proofs.Ytoocglckhphepaa
