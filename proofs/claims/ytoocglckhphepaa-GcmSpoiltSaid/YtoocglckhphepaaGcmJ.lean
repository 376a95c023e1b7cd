/-
  THE CALLS OF PACKAGE gcm, TENTH PART: Open.
-/
import Derived.Test.YtoocglckhphepaaGcmI
namespace Go.Proofs.Ytoocglckhphepaa
open Go Go.RowKit Go.BigFrame
set_option maxRecDepth 100000
set_option linter.unusedSimpArgs false
theorem run_upto_b (w : World) (a : Option Addr) (k m c : Nat) (hk : k ≤ m) (hm : m ≤ c) : (Instr.sliceAt 25 (.slice a m c) none (some (.int .i64 (k : Int))) none).run Try.prog w = .ok (.slice a k c) w := by
  have hkc : k ≤ c := Nat.le_trans hk hm
  have hu : Try.prog.underlying 25 = some (.slice (Try.prog.elem 25)) := by kernel_rfl
  rw [run_sliceAt_slice (t := 25) (h := hu), run_slice_any (t := 25) (ht := hu)]
  have h0 : (0 : Int) ≤ (k : Int) := by omega
  have h1 : (k : Int) ≤ (c : Int) := by omega
  simp [Instr.sliceBounds, go_sem, h0, h1]
theorem run_from_b (w : World) (b o k m c : Nat) (hk : k ≤ m) (hc : c ≠ k) : (Instr.sliceAt 25 (.slice (some ⟨b, o, none⟩) m c) (some (.int .i64 (k : Int))) none none).run Try.prog w = .ok (.slice (some ⟨b, o + k, none⟩) (m - k) (c - k)) w := by
  have hu : Try.prog.underlying 25 = some (.slice (Try.prog.elem 25)) := by kernel_rfl
  rw [run_sliceAt_slice (t := 25) (h := hu), run_slice_any (t := 25) (ht := hu)]
  have h0 : (0 : Int) ≤ (k : Int) := by omega
  have h1 : (k : Int) ≤ (m : Int) := by omega
  have e : ((⟨b, o, none⟩ : Addr).add k) = ⟨b, o + k, none⟩ := by unfold Addr.add; split <;> simp_all
  simp [Instr.sliceBounds, go_sem, h0, h1, hc, e]
set_option maxHeartbeats 1000000 in
theorem gopen_bad (p q : Nat) (ks : Nat → BitVec 32) (h : W2) (a a' a'' : Option Addr) (n c n' c' n'' c'' : Nat) (w : World) (hB : BoxAt w p q ks h) (hn : n ≠ 12) :
    Calls Try.prog 15 #[.pointer (some ⟨p, 0, none⟩), .slice a n c, .slice a' n' c', .slice a'' n'' c''] w fun e w' => e = .returned (.tuple #[.slice none 0 0, .int .i64 1]) ∧ w = w' := by
  have tk := Lib.hid (takes_no p q ks h a n c w hB hn)
  clear hB
  go_enter Try.func15, Try.ntmps15
  go_wp2_with (go_at_call 23; refine tk.out.mono ?_; rintro e w' ⟨rfl, rfl⟩)
  go_ret2
  exact ⟨rfl, rfl⟩
set_option maxHeartbeats 1000000 in
theorem gopen_short (p q : Nat) (ks : Nat → BitVec 32) (h : W2) (a a' a'' : Option Addr) (c n' c' n'' c'' : Nat) (w : World) (hB : BoxAt w p q ks h) (hn : n'' < 16) :
    Calls Try.prog 15 #[.pointer (some ⟨p, 0, none⟩), .slice a 12 c, .slice a' n' c', .slice a'' n'' c''] w fun e w' => e = .returned (.tuple #[.slice none 0 0, .int .i64 3]) ∧ w = w' := by
  have tk := Lib.hid (takes_yes p q ks h a c w hB)
  have hnI : (n'' : Int) < 16 := by omega
  clear hB
  go_enter Try.func15, Try.ntmps15
  go_wp2_with (go_at_call 23; refine tk.out.mono ?_; rintro e w' ⟨rfl, rfl⟩)
  go_ret2
  exact ⟨rfl, rfl⟩
/-- What Open tells of bytes whose seal is right; of others. -/
def openE (ks : Nat → BitVec 32) (h : W2) (f g : Nat → BitVec 8) (n : Nat) (xs : Nat → BitVec 8) (m : Nat) : Bool :=
  accD (tagW ks h f g n xs m).byte (fun i => xs (m + i)) 16 == 0#8
set_option maxHeartbeats 4000000 in
theorem gopen_ok (p q : Nat) (ks : Nat → BitVec 32) (h : W2) (f g xs : Nat → BitVec 8) (kb ko kc : Nat) (a a' : Option Addr) (n c m c' : Nat) (w : World) (hB : BoxAt w p q ks h)
    (hk : ∀ i, i < 12 → w.cell? ⟨kb, ko + i, none⟩ = some (.int .u8 (n8 (f i)))) (hkb : kb < w.heap.size) (hx : BytesIn w a n g) (hn : n ≤ c) (hc : c ≤ maxLen) (hy : BytesIn w a' (m + 16) xs) (hmc : m + 16 ≤ c') (hm : m ≤ 100000000000000) (hc' : c' ≤ maxLen) :
    Calls Try.prog 15 #[.pointer (some ⟨p, 0, none⟩), .slice (some ⟨kb, ko, none⟩) 12 kc, .slice a n c, .slice a' (m + 16) c'] w
      fun e w' => Below w.heap.size w w' ∧ ((openE ks h f g n xs m = true ∧ ∃ r, e = .returned (.tuple #[.slice (some ⟨r, 0, none⟩) m m, .int .i64 0]) ∧ w.heap.size ≤ r ∧ w'.heap[r]? = some (.cells (bytesArr (hid ks f xs) m) 5 (0, 0)))
        ∨ (openE ks h f g n xs m = false ∧ e = .returned (.tuple #[.slice none 0 0, .int .i64 4]))) := by
  have tk := Lib.hid (takes_yes p q ks h (some ⟨kb, ko, none⟩) kc w hB)
  have hml : m ≤ maxLen := by unfold maxLen; omega
  obtain h0 | ⟨bb, bo, rfl, hbb, hcell⟩ := hy.2
  · omega
  have HYm := Lib.hid (show BytesIn w (some ⟨bb, bo, none⟩) m xs from ⟨hml, .inr ⟨bb, bo, rfl, hbb, fun i hi => hcell i (by omega)⟩⟩)
  have HYt := Lib.hid (show BytesIn w (some ⟨bb, bo + m, none⟩) 16 (fun i => xs (m + i)) from ⟨by decide, .inr ⟨bb, bo + m, rfl, hbb, fun i hi => by rw [Nat.add_assoc]; exact hcell (m + i) (by omega)⟩⟩)
  have so := Lib.hid (sealOf_any p q ks h f g xs kb ko kc a (some ⟨bb, bo, none⟩) n c m c' w.drew (hB.later (Below.refl _ _).drew) hk hkb hx hn hc HYm.out (by omega) hc')
  have HB := Lib.hid hB
  have HK := Lib.hid hk
  have HKB := Lib.hid hkb
  have HML := Lib.hid hml
  have hnI : ¬ ((m : Int) + 16 < 16) := by omega
  have s1 := fun w' => run_upto_b w' (some ⟨bb, bo, none⟩) m (m + 16) c' (by omega) hmc
  have s2 : ∀ w', (Instr.sliceAt 25 (.slice (some ⟨bb, bo, none⟩) (m + 16) c') (some (.int .i64 (m : Int))) none none).run Try.prog w' = .ok (.slice (some ⟨bb, bo + m, none⟩) 16 (c' - m)) w' := fun w' => by
    have h := run_from_b w' bb bo m (m + 16) c' (by omega) (by omega)
    rw [show m + 16 - m = 16 by omega] at h
    exact h
  have e1 : IntKind.i64.wrap (m : Int) = (m : Int) := by rw [IntKind.wrap_i64]; omega
  have e2 : (m : Int) + 16 - 16 = (m : Int) := by omega
  clear hB hk hkb hx hy hcell hc hc' hml
  go_enter Try.func15, Try.ntmps15
  go_wp2_with (go_at_call 23; refine tk.out.mono ?_; rintro e w' ⟨rfl, rfl⟩)
  go_upto_region 5 with (fail)
  go_region_with (fail)
  clear s1 s2 e1 e2
  go_wp2_with fail
  with_reducible refine so.out.mono ?_
  rintro e w2 ⟨rfl, hb2⟩
  generalize hG : (tagW ks h f g n xs m).byte = G
  have HG := Lib.hid hG
  have HB2 := Lib.hid ((Below.refl w.heap.size w).drew.trans hb2)
  clear so hG hb2
  go_upto_region 9 with (first
    | (refine wpList_alloc_row (o := ⟨some 12, .alloc 22, _, _, _, _⟩) rfl 22 rfl zeros16 zero_16 ?_)
    | (refine wpList_store_new (o := ⟨none, .store 22 (.tmp 12) (.tmp 37), _, _, _, _⟩) rfl 22 _ _ rfl zeros16 (b16 G) _ rfl rfl rfl (size_16 _) rfl (b16_one _) ?_))
  have row := heap_alloc_last w2 (.cells (b16 G) 22)
  have hb3 := HB2.out.alloc HB2.out.size (.cells (b16 G) 22)
  generalize hW : w2.alloc _ = w3 at *
  generalize w2.heap.size = k at *
  clear hW
  have HB3 := Lib.hid hb3
  have sm := Lib.hid (same_any G (fun i => xs (m + i)) (some ⟨k, 0, none⟩) (some ⟨bb, bo + m, none⟩) 16 16 (c' - m) w3 (by decide) (in_row (by decide) (by rw [bytes16_b16]; exact row)) (bytesIn_later HYt.out hb3))
  have tu := Lib.hid (turned_any' p q ks h f xs kb ko kc (some ⟨bb, bo, none⟩) m c' w3 (HB.out.later hb3) (fun i hi => by rw [hb3.cell (p := ⟨kb, ko + i, none⟩) HKB.out]; exact HK.out i hi) (Nat.lt_of_lt_of_le HKB.out hb3.size) (bytesIn_later HYm.out hb3) (by omega))
  have hE : openE ks h f g n xs m = (accD G (fun i => xs (m + i)) 16 == 0#8) := by unfold openE; rw [HG.out]
  have HE := Lib.hid hE
  clear hb3 row hE
  go_wp2_with fail
  refine sm.out.mono ?_
  rintro e w' ⟨rfl, rfl⟩
  generalize hD : (accD G (fun i => xs (m + i)) 16 == 0#8) = D at *
  clear hD sm
  cases D with
  | false =>
    go_wp2_with fail
    go_ret2
    exact ⟨HB3.out, .inr ⟨HE.out, rfl⟩⟩
  | true =>
    go_wp2_with fail
    refine tu.out.mono ?_
    rintro e w4 ⟨r, rfl, hb4, hr, row4⟩
    go_wp2_with fail
    go_ret2
    exact ⟨HB3.out.trans (hb4.mono HB3.out.size), .inl ⟨HE.out, r, rfl, Nat.le_trans HB3.out.size hr, row4⟩⟩
end Go.Proofs.Ytoocglckhphepaa
