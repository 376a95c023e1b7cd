/-
  THE CALLS OF PACKAGE gcm, NINTH PART: Seal and Open.
-/
import Derived.Test.YtoocglckhphepaaGcmH
namespace Go.Proofs.Ytoocglckhphepaa
open Go Go.RowKit Go.BigFrame
set_option maxRecDepth 100000
set_option linter.unusedSimpArgs false
theorem Own.of_row {B r n : Nat} {f : Nat → BitVec 8} {w : World} (hB : B ≤ r) (hn : n ≤ maxLen) (h : w.heap[r]? = some (.cells (bytesArr f n) 5 (0, 0))) : Own B (.slice (some ⟨r, 0, none⟩) n n) n f w :=
  ⟨⟨by rw [firsts_len, Nat.mul_one], .inr ⟨r, n, bytesArr f n, rfl, hB, h, Nat.le_refl _, hn, by rw [bytesArr_size, Nat.mul_one], by rw [Nat.mul_one, bytesArr_firsts, List.take_of_length_le (by rw [firsts_len]; exact Nat.le_refl _)]⟩⟩, Nat.le_trans hB (Nat.le_of_lt (lt_of_heap h))⟩
theorem in_row {w : World} {r n : Nat} {f : Nat → BitVec 8} {T : TypeId} (hn : n ≤ maxLen) (h : w.heap[r]? = some (.cells (bytesArr f n) T (0, 0))) : BytesIn w (some ⟨r, 0, none⟩) n f :=
  ⟨hn, .inr ⟨r, 0, rfl, lt_of_heap h, fun i hi => by rw [Nat.zero_add]; exact bytesIn_cells h i hi⟩⟩
/-- What Seal makes: the bytes hidden, and the seal. -/
def sealF (ks : Nat → BitVec 32) (h : W2) (f g : Nat → BitVec 8) (n : Nat) (xs : Nat → BitVec 8) (m : Nat) : Nat → BitVec 8 :=
  joinb (hid ks f xs) m (tagW ks h f g n (hid ks f xs) m).byte
set_option maxHeartbeats 1000000 in
theorem gseal_nil (a a' a'' : Option Addr) (n c n' c' n'' c'' : Nat) (w : World) :
    Calls Try.prog 11 #[.pointer none, .slice a n c, .slice a' n' c', .slice a'' n'' c''] w fun e w' => e = .returned (.tuple #[.slice none 0 0, .int .i64 1]) ∧ w = w' := by
  go_enter Try.func11, Try.ntmps11
  go_wp2_with (go_at_call 23; refine (takes_nil _ _ _ _).mono ?_; rintro e w' ⟨rfl, rfl⟩)
  go_ret2
  exact ⟨rfl, rfl⟩
set_option maxHeartbeats 1000000 in
theorem gseal_bad (p q : Nat) (ks : Nat → BitVec 32) (h : W2) (a a' a'' : Option Addr) (n c n' c' n'' c'' : Nat) (w : World) (hB : BoxAt w p q ks h) (hn : n ≠ 12) :
    Calls Try.prog 11 #[.pointer (some ⟨p, 0, none⟩), .slice a n c, .slice a' n' c', .slice a'' n'' c''] w fun e w' => e = .returned (.tuple #[.slice none 0 0, .int .i64 1]) ∧ w = w' := by
  have tk := Lib.hid (takes_no p q ks h a n c w hB hn)
  clear hB
  go_enter Try.func11, Try.ntmps11
  go_wp2_with (go_at_call 23; refine tk.out.mono ?_; rintro e w' ⟨rfl, rfl⟩)
  go_ret2
  exact ⟨rfl, rfl⟩
set_option maxHeartbeats 4000000 in
theorem gseal_ok (p q : Nat) (ks : Nat → BitVec 32) (h : W2) (f g xs : Nat → BitVec 8) (kb ko kc : Nat) (a a' : Option Addr) (n c m c' : Nat) (w : World) (hB : BoxAt w p q ks h)
    (hk : ∀ i, i < 12 → w.cell? ⟨kb, ko + i, none⟩ = some (.int .u8 (n8 (f i)))) (hkb : kb < w.heap.size) (hx : BytesIn w a n g) (hn : n ≤ c) (hc : c ≤ maxLen) (hy : BytesIn w a' m xs) (hm : m ≤ 100000000000000) :
    Calls Try.prog 11 #[.pointer (some ⟨p, 0, none⟩), .slice (some ⟨kb, ko, none⟩) 12 kc, .slice a n c, .slice a' m c'] w
      fun e w' => ∃ v, e = .returned (.tuple #[v, .int .i64 0]) ∧ Own w.heap.size v (m + 16) (sealF ks h f g n xs m) w' ∧ Below w.heap.size w w' := by
  have tk := Lib.hid (takes_yes p q ks h (some ⟨kb, ko, none⟩) kc w hB)
  have tu := Lib.hid (turned_any' p q ks h f xs kb ko kc a' m c' w hB hk hkb hy (by omega))
  have HB := Lib.hid hB
  have HK := Lib.hid hk
  have HX := Lib.hid hx
  have HC := Lib.hid hc
  have HKB := Lib.hid hkb
  clear hB hk hx hy hc hkb
  go_enter Try.func11, Try.ntmps11
  go_wp2_with (go_at_call 23; refine tk.out.mono ?_; rintro e w' ⟨rfl, rfl⟩)
  refine tu.out.mono ?_
  rintro e w1 ⟨r, rfl, hb1, hr, row1⟩
  have hml : m ≤ maxLen := by unfold maxLen; omega
  have so := Lib.hid (sealOf_any p q ks h f g (hid ks f xs) kb ko kc a (some ⟨r, 0, none⟩) n c m m w1 (HB.out.later hb1) (fun i hi => by rw [hb1.cell (p := ⟨kb, ko + i, none⟩) HKB.out]; exact HK.out i hi) (Nat.lt_of_lt_of_le HKB.out hb1.size)
    (bytesIn_later HX.out hb1) hn HC.out (in_row hml row1) (Nat.le_refl _) hml)
  have HB1 := Lib.hid hb1
  have Row1 := Lib.hid row1
  have HR := Lib.hid hr
  have HML := Lib.hid hml
  clear hb1 row1 hr tk tu hml
  go_wp2_with fail
  refine so.out.mono ?_
  rintro e w2 ⟨rfl, hb2⟩
  generalize hG : (tagW ks h f g n (hid ks f xs) m).byte = G
  have HG := Lib.hid hG
  have HB2 := Lib.hid (HB1.out.trans (hb2.mono HB1.out.size))
  have Row2 := Lib.hid ((hb2.block _ (lt_of_heap Row1.out)).trans Row1.out)
  clear so hG hb2 Row1
  go_upto_region 9 with (first
    | (refine wpList_alloc_row (o := ⟨some 12, .alloc 22, _, _, _, _⟩) rfl 22 rfl zeros16 zero_16 ?_)
    | (refine wpList_store_new (o := ⟨none, .store 22 (.tmp 12) (.tmp 33), _, _, _, _⟩) rfl 22 _ _ rfl zeros16 (b16 G) _ rfl rfl rfl (size_16 _) rfl (b16_one _) ?_))
  have row := heap_alloc_last w2 (.cells (b16 G) 22)
  have own := (Own.of_row (B := w.heap.size) HR.out HML.out Row2.out).alloc (.cells (b16 G) 22)
  have hb3 := HB2.out.alloc HB2.out.size (.cells (b16 G) 22)
  generalize hW : w2.alloc _ = w3 at *
  generalize w2.heap.size = k at *
  clear hW
  have OW := Lib.hid own
  have HB3 := Lib.hid hb3
  have src := Lib.hid (src_bytes G k 0 16 16 w3 (fun i hi => by rw [Nat.zero_add, cell_of_row _ _ _ _ _ _ row]; exact b16_get _ _ hi))
  clear own hb3 row
  go_wp2_with (at_builtin; refine wpList_append_bytes (o := ⟨some 40, _, _, _, _, _⟩) rfl _ _ 25 rfl rfl rfl OW.out src.out (by omega) ?_; intro v' w4 ho hg)
  go_ret2
  refine ⟨v', rfl, ?_, HB3.out.trans (hg.below OW.out)⟩
  unfold sealF
  rw [HG.out]
  exact ho
end Go.Proofs.Ytoocglckhphepaa
