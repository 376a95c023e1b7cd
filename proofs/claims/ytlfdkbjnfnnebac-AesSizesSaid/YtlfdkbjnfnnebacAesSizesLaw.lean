import Derived.Test.YtlfdkbjnfnnebacRows
import Derived.Test.YtlfdkbjnfnnebacAesJ
import Derived.Test.YtlfdkbjnfnnebacRowIn
import Derived.WalkKit
import Derived.ProofKit
import Derived.OpenShut
import Derived.ShutString
import Derived.ChangeOld
import Derived.Below
namespace Go.Proofs.Ytlfdkbjnfnnebac.aesSizes
open Go.ChangeShapes Go.WideShapes Go.ChangeAt Go.RowKit
open Go.ChangeMaps (open_string shut_string)
set_option linter.unusedVariables false

theorem own : ownKnob Try.prog.godebug = none := by kernel_rfl
theorem laidOut : laidOutB Try.prog = true := by kernel_rfl

/-- WHAT THE WALK IS TOLD OF A SLICE OF INTEGERS THAT CAME IN: it is nil; or it leads to a row of 'cap' cells, the numbers 'zs' (the first 'len' are its elements, the rest its spare room), each fitting its kind. -/
def IsRow (k : IntKind) (w : World) (a : Option Addr) (len cap : Nat) (zs : List Int) : Prop :=
  (a = none ∧ len = 0 ∧ cap = 0 ∧ zs = []) ∨
  ∃ x, a = some x ∧ len ≤ cap ∧ cap ≤ maxLen ∧ zs.length = cap ∧ (∀ i, i < zs.length → w.cell? (x.add i) = some (.int k (zs.getD i 0))) ∧ ∀ n ∈ zs, (Lit.int k n).wf = true

theorem conv_new (w : World) (c : Array Value) (n m : Nat) : (convert 22 22 (.slice (some ⟨w.heap.size, 0, none⟩) n m)).run Try.prog (w.alloc (.cells c 5)) = .ok (.slice (some ⟨w.heap.size, 0, none⟩) n m) (w.alloc (.cells c 5 (c.size, c.size + 1))) := by
  have h1 : Try.prog.underlying 22 = some (.slice 5) := by kernel_rfl
  have h2 : Try.prog.underlying 5 = some (.int .u8) := by kernel_rfl
  have h3 : (w.alloc (.cells c 5)).shape? w.heap.size = some (5, c.size) := by
    unfold World.shape?
    rw [heap_alloc_last]
  have h4 : (w.alloc (.cells c 5)).freeze ⟨w.heap.size, c.size, none⟩ 1 = w.alloc (.cells c 5 (c.size, c.size + 1)) := by
    unfold World.freeze World.alloc
    simp only [Nat.one_ne_zero, if_false]
    congr 1
    apply Array.ext_getElem?
    intro i
    rw [Array.getElem?_modify]
    by_cases h : w.heap.size = i
    · subst h; simp
    · have h' : ¬ i = w.heap.size := fun e => h e.symm
      simp [h, h', Array.getElem?_push]
  simp [convert, run_underlying h1, run_underlying h2, Sem.run_bind, markStringish, h3, h4]
theorem walk_other (a0 : Option Addr) (len0 cap0 : Nat) (a1 : Option Addr) (len1 cap1 : Nat) (w : World) (h16 : len0 ≠ 16) :
    Calls Try.prog 3 #[.slice a0 len0 cap0, .slice a1 len1 cap1] w fun e w' => e = .returned (.bool true) ∧ Below w.heap.size w w' := by
  have h1 : ((len0 : Int) == 16) = false := beq_eq_false_iff_ne.2 (by omega)
  go_enter Try.func3, Try.ntmps3
  go_wp2_with (go_at_call 8; refine (none_any _).mono ?_; rintro e w' ⟨rfl, rfl⟩)
  refine (block_nil _ _ _ _).mono ?_; rintro e w' ⟨rfl, rfl⟩
  go_wp2_with (go_at_call 8; refine (none_any _).mono ?_; rintro e w' ⟨rfl, rfl⟩)
  refine (stream_nil _ _ _ _ _ _ _ _).mono ?_; rintro e w' ⟨rfl, rfl⟩
  go_wp2_with fail
  refine (new_bad _ _ _ _ h16).mono ?_; rintro e w' ⟨rfl, rfl⟩
  go_wp2_with fail
  refine (turns_any _).mono ?_; rintro e w1 ⟨rfl, hb1⟩
  go_wp2_with fail
  go_ret
  exact ⟨rfl, hb1⟩
theorem walk_b (f0 : Nat → BitVec 8) (b0 o0 : Nat) (cap0 : Nat) (a1 : Option Addr) (len1 cap1 : Nat) (w : World) (hb0 : b0 < w.heap.size) (hc0 : ∀ i, i < 16 → w.cell? ⟨b0, o0 + i, none⟩ = some (.int .u8 (n8 (f0 i)))) (h16 : len1 ≠ 16) :
    Calls Try.prog 3 #[.slice (some ⟨b0, o0, none⟩) 16 cap0, .slice a1 len1 cap1] w fun e w' => e = .returned (.bool true) ∧ Below w.heap.size w w' := by
  have h1 : ((len1 : Int) != 16) = true := by rw [bne_iff_ne]; omega
  have h2 : ((len1 : Int) == 16) = false := beq_eq_false_iff_ne.2 (by omega)
  have H0 := Lib.hid hc0
  clear hc0
  have cv := conv_new
  go_enter Try.func3, Try.ntmps3
  go_wp2_with (go_at_call 8; refine (none_any _).mono ?_; rintro e w' ⟨rfl, rfl⟩)
  refine (block_nil _ _ _ _).mono ?_; rintro e w' ⟨rfl, rfl⟩
  go_wp2_with (go_at_call 8; refine (none_any _).mono ?_; rintro e w' ⟨rfl, rfl⟩)
  refine (stream_nil _ _ _ _ _ _ _ _).mono ?_; rintro e w' ⟨rfl, rfl⟩
  go_wp2_with fail
  refine (new_ok f0 b0 o0 cap0 w H0.out hb0).mono ?_; rintro e w1 ⟨rfl, q, hk⟩
  have hci := hk.cipher
  have hbel := hk.below
  have HK := Lib.hid hbel
  clear hk hbel
  go_wp2_with fail
  refine (turns_any _).mono ?_; rintro e w2 ⟨rfl, hb2⟩
  have hc2 := hci.later hb2
  have HB2 := Lib.hid hb2
  clear hb2 hci
  go_wp2_with fail
  refine (block_bad _ _ _ _ _ _ hc2 h16).mono ?_; rintro e w' ⟨rfl, rfl⟩
  go_wp2_with fail
  refine (stream_bad _ _ _ _ _ _ _ _ _ _ (hc2.later ((Below.refl _ _).alloc (Nat.le_refl _) _)) h16).mono ?_; rintro e w' ⟨rfl, rfl⟩
  clear hc2
  go_wp2_with fail
  go_ret
  exact ⟨rfl, (HK.out.trans (HB2.out.mono HK.out.size)).alloc (Nat.le_trans HK.out.size HB2.out.size) _⟩
theorem walk_all (f0 : Nat → BitVec 8) (b0 o0 : Nat) (cap0 : Nat) (f1 : Nat → BitVec 8) (b1 o1 cap1 : Nat) (w : World) (hb0 : b0 < w.heap.size) (hc0 : ∀ i, i < 16 → w.cell? ⟨b0, o0 + i, none⟩ = some (.int .u8 (n8 (f0 i))))
    (hb1 : b1 < w.heap.size) (hc1 : ∀ i, i < 16 → w.cell? ⟨b1, o1 + i, none⟩ = some (.int .u8 (n8 (f1 i)))) :
    Calls Try.prog 3 #[.slice (some ⟨b0, o0, none⟩) 16 cap0, .slice (some ⟨b1, o1, none⟩) 16 cap1] w fun e w' => e = .returned (.bool true) ∧ Below w.heap.size w w' := by
  have H0 := Lib.hid hc0
  have H1 := Lib.hid hc1
  clear hc0 hc1
  have cv := conv_new
  go_enter Try.func3, Try.ntmps3
  go_wp2_with (go_at_call 8; refine (none_any _).mono ?_; rintro e w' ⟨rfl, rfl⟩)
  refine (block_nil _ _ _ _).mono ?_; rintro e w' ⟨rfl, rfl⟩
  go_wp2_with (go_at_call 8; refine (none_any _).mono ?_; rintro e w' ⟨rfl, rfl⟩)
  refine (stream_nil _ _ _ _ _ _ _ _).mono ?_; rintro e w' ⟨rfl, rfl⟩
  go_wp2_with fail
  refine (new_ok f0 b0 o0 cap0 w H0.out hb0).mono ?_; rintro e w1 ⟨rfl, q, hk⟩
  have hci := hk.cipher
  have hbel := hk.below
  have HK := Lib.hid hbel
  clear hk hbel
  go_wp2_with fail
  refine (turns_any _).mono ?_; rintro e w2 ⟨rfl, hb2⟩
  have hc2 := hci.later hb2
  have hB2 := HK.out.trans (hb2.mono HK.out.size)
  have HB2 := Lib.hid hB2
  clear hb2 hci HK hB2
  go_wp2_with fail
  refine (block_ok _ f1 _ b1 o1 cap1 w2 hc2 (fun i hi => by rw [HB2.out.cell (p := ⟨b1, o1 + i, none⟩) hb1]; exact H1.out i hi) (Nat.lt_of_lt_of_le hb1 HB2.out.size)).mono ?_
  rintro e w3 ⟨r, rfl, hf⟩
  have hc3 := hc2.later hf.below
  have hB3 := HB2.out.trans (hf.below.mono HB2.out.size)
  have HB3 := Lib.hid hB3
  clear hf hB3 hc2 HB2
  go_wp2_with fail
  refine (stream_ok _ f1 (fun i => if i = 0 then 97#8 else if i = 1 then 98#8 else 99#8) w.heap.size b1 o1 cap1 3 _ 3 3 _ (hc3.later ((Below.refl _ _).alloc (Nat.le_refl _) _)) (fun i hi => ?_) ?_ (by omega) (by omega) ?_).mono ?_
  · rw [((Below.refl w3.heap.size w3).alloc (Nat.le_refl _) _).cell (p := ⟨b1, o1 + i, none⟩) (Nat.lt_of_lt_of_le hb1 HB3.out.size), HB3.out.cell (p := ⟨b1, o1 + i, none⟩) hb1]; exact H1.out i hi
  · exact Nat.lt_of_lt_of_le hb1 (Nat.le_trans HB3.out.size ((Below.refl w3.heap.size w3).alloc (Nat.le_refl _) _).size)
  · refine .inr ⟨w3.heap.size, 0, rfl, by simp, fun i hi => ?_⟩
    rw [cell_of_row _ _ _ _ _ _ (heap_alloc_last w3 _)]
    match i, hi with
    | 0, _ => simp [n8]
    | 1, _ => simp [n8]
    | 2, _ => simp [n8]
  rintro e w4 ⟨r4, rfl, hb4, _, _⟩
  have hB4 := ((HB3.out.alloc HB3.out.size (.cells #[.int .u8 97, .int .u8 98, .int .u8 99] 5 (3, 4))).trans (hb4.mono (by simp; exact Nat.le_succ_of_le HB3.out.size)))
  have HB4 := Lib.hid hB4
  clear hb4 hB4 hc3
  go_wp2_with fail
  go_ret
  exact ⟨rfl, HB4.out⟩
theorem walk (a0 : Option Addr) (len0 cap0 : Nat) (z0 : List Int) (a1 : Option Addr) (len1 cap1 : Nat) (z1 : List Int) (w : World) (w0 : IsRow .u8 w a0 len0 cap0 z0) (w1 : IsRow .u8 w a1 len1 cap1 z1) :
    Calls Try.prog 3 #[.slice a0 len0 cap0, .slice a1 len1 cap1] w fun e w' => e = .returned (.bool true) ∧ Below w.heap.size w w' := by
  obtain ⟨f0, _, h0⟩ := row_in w a0 len0 cap0 z0 w0
  obtain ⟨f1, _, h1⟩ := row_in w a1 len1 cap1 z1 w1
  by_cases e0 : len0 = 16
  · subst e0
    obtain h0 | ⟨b0, o0, rfl, hb0, hc0⟩ := h0
    · omega
    by_cases e1 : len1 = 16
    · subst e1
      obtain h1 | ⟨b1, o1, rfl, hb1, hc1⟩ := h1
      · omega
      exact walk_all f0 b0 o0 cap0 f1 b1 o1 cap1 w hb0 hc0 hb1 hc1
    · exact walk_b f0 b0 o0 cap0 a1 len1 cap1 w hb0 hc0 e1
  · exact walk_other a0 len0 cap0 a1 len1 cap1 w e0

/-! ### THE ROW's STEP: WRITTEN OUT: LEAVE IT -/
set_option maxRecDepth 100000 in
theorem lifted (os : Os) (started : os.Started) (H : Type) (enc : TypeId × Value → H) :
    ReturnsInHanded {} Try.checked os 3 .any (Rows.aesSizesSpec.pre6 enc Try.prog Try.f3 Rows.aesSizesRow.domain false) (Rows.aesSizesSpec.post enc Try.prog Try.f3 false true false false) := by
  refine returnsInHanded_of_change (C := Try.checked) own started (by kernel_rfl) Try.func3
    (ChangeSpec.witness6 (enc := enc) (C := Try.checked) false ⟨#[], #[.slice none 0 0, .slice none 0 0], []⟩ 8 (by kernel_rfl) (by kernel_rfl) (by kernel_rfl) (by kernel_rfl)) ?_
  intro W base args ds gs before hval0 hW hcnd _
  have hval : ∀ (j : Nat) t v, Try.f3.params[j]? = some t → args[j]? = some v → Value.okWide Try.prog W .any base t v := hval0
  have hW' := hW
  obtain ⟨p, q, hA0, hV, rfl, hfz, hnd⟩ := hW
  have hA : DataW.TrodAll enc Try.prog W 0 (fun _ => true) true Try.f3.params.toList args.toList ds p := hA0
  rw [Try.params3] at hA hval
  obtain ⟨v0, vs0, d0, ds0, p0, q0, hargs, rfl, rfl, h0, r0⟩ := trodAll_cons hA
  obtain ⟨v1, vs1, d1, ds1, p1, q1, rfl, rfl, rfl, h1, r1⟩ := trodAll_cons r0
  obtain ⟨rfl, rfl, rfl⟩ := trodAll_nil r1
  obtain rfl : args = #[v0, v1] := by cases args; simp_all
  obtain ⟨rfl, rfl⟩ := trodVars_none hV
  obtain ⟨a0, len0, cap0, rfl⟩ := okWide_slice Try.underlying22 (hval 0 22 v0 rfl rfl)
  have k0 := h0
  have lt0 : ∀ x ∈ p0, x.block < W.heap.size := by obtain ⟨m, hm⟩ := k0; exact DataW.trod_lt m _ _ _ hm
  obtain ⟨z0, w0⟩ : ∃ zs, IsRow .u8 W a0 len0 cap0 zs := by
    obtain ⟨fuel, hf⟩ := h0
    rcases open_ints Try.underlying22 Try.underlying5 (by kernel_rfl) hf with ⟨hcs, _⟩ | ⟨x, l, c, zs, hcs, _, hl, hm, hz, _, hcell, hwz⟩
    · simp [Value.cells] at hcs
      obtain ⟨rfl, rfl, rfl⟩ := hcs
      exact ⟨[], .inl ⟨rfl, rfl, rfl, rfl⟩⟩
    · simp [Value.cells] at hcs
      obtain ⟨rfl, rfl, rfl⟩ := hcs
      exact ⟨zs, .inr ⟨_, rfl, hl, hm, by simpa using hz, hcell, hwz⟩⟩
  obtain ⟨a1, len1, cap1, rfl⟩ := okWide_slice Try.underlying22 (hval 1 22 v1 rfl rfl)
  have k1 := h1
  have lt1 : ∀ x ∈ p1, x.block < W.heap.size := by obtain ⟨m, hm⟩ := k1; exact DataW.trod_lt m _ _ _ hm
  obtain ⟨z1, w1⟩ : ∃ zs, IsRow .u8 W a1 len1 cap1 zs := by
    obtain ⟨fuel, hf⟩ := h1
    rcases open_ints Try.underlying22 Try.underlying5 (by kernel_rfl) hf with ⟨hcs, _⟩ | ⟨x, l, c, zs, hcs, _, hl, hm, hz, _, hcell, hwz⟩
    · simp [Value.cells] at hcs
      obtain ⟨rfl, rfl, rfl⟩ := hcs
      exact ⟨[], .inl ⟨rfl, rfl, rfl, rfl⟩⟩
    · simp [Value.cells] at hcs
      obtain ⟨rfl, rfl, rfl⟩ := hcs
      exact ⟨zs, .inr ⟨_, rfl, hl, hm, by simpa using hz, hcell, hwz⟩⟩
  clear hA0 hval0
  refine (walk a0 len0 cap0 z0 a1 len1 cap1 z1 W w0 w1).mono fun e W' ⟨he, bel⟩ => ?_
  subst he
  exact ⟨_, rfl, _, _, _, [], _, [], hW', trodAll_mk1 (shut_bool Try.underlying4 _), (trodAll_cons_mk (Below.trod laidOut (by kernel_rfl) (of_decide_eq_true (by kernel_rfl)) k0 bel lt0) (trodAll_cons_mk (Below.trod laidOut (by kernel_rfl) (of_decide_eq_true (by kernel_rfl)) k1 bel lt1) trodAll_mk0)), rfl, bel.frame _, fun h => by cases h⟩

theorem over : Rows.aesSizesRow.holds Try.pinned (OpenSpec.ofChange Rows.aesSizesSpec) :=
  OpenClaim.holds_of_wide 3 Try.f3 rfl rfl rfl rfl rfl rfl rfl ⟨rfl, rfl, rfl, rfl, rfl⟩ rfl rfl rfl rfl rfl (by kernel_rfl) Try.func3 (by kernel_rfl)
    (of_decide_eq_true (by kernel_rfl)) (by unfold Func.isWrapper; first | (rw [if_pos (by decide +kernel)]; kernel_rfl) | (rw [if_neg (by decide +kernel)]; exact ⟨rfl, rfl⟩))
    (fun os started H enc _ => lifted os started H enc)

/-- ████ THE STATEMENT ████ -/
theorem proved : Rows.AesSizesSaid := over
end Go.Proofs.Ytlfdkbjnfnnebac.aesSizes
