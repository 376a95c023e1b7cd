/-
  PACKET's Get.
-/
import Derived.Test.YtcgbhcmgddgheaaDoorRdE
import Derived.Test.YtcgbhcmgddgheaaDoorEq
namespace Go.Proofs.YtcgbhcmgddgheaaDoor
open Go Go.RowKit Go.BigFrame
set_option linter.unusedSimpArgs false
set_option linter.unusedVariables false
set_option maxRecDepth 100000
/-- Does it begin with a long header whose Version is 0? -/
def sv (f : Nat → BitVec 8) (len : Nat) : Prop := ¬ f 0 &&& 128#8 = 0#8 ∧ 5 ≤ len ∧ f 1 = 0#8 ∧ f 2 = 0#8 ∧ f 3 = 0#8 ∧ f 4 = 0#8
instance (f : Nat → BitVec 8) (len : Nat) : Decidable (sv f len) := by unfold sv; infer_instance
theorem bit_test (x c : BitVec 8) : (n8 (x &&& c) == 0) = decide (x &&& c = 0#8) := by
  have h := n8_inj (x &&& c) 0#8
  rw [show n8 0#8 = 0 from by unfold n8; rfl] at h
  by_cases hc : x &&& c = 0#8
  · rw [decide_eq_true hc, hc, show n8 0#8 = 0 from by unfold n8; rfl]; rfl
  · rw [decide_eq_false hc]
    exact beq_eq_false_iff_ne.2 (fun e => hc (by rw [← h]; exact e))
theorem load4 (g : Nat → BitVec 8) (b o : Nat) (w : World) (hc : ∀ i, i < 4 → w.cell? ⟨b, o + i, none⟩ = some (.int .u8 (n8 (g i)))) :
    (Instr.loadAt 112 (.pointer (some ⟨b, o, none⟩))).run Tryd.prog w = .ok (.agg (bytesArr g 4)) w := by
  have h := run_loadAt_mid (P := Tryd.prog) w b o 112 (bytesArr g 4).toList (.array 4 5) (fun j v hj => by
    have h4 : j < 4 := by have := (List.getElem?_eq_some_iff.1 hj).1; simpa [bytesArr] using this
    rw [hc j h4]
    rw [Array.getElem?_toList, bytesArr_get g 4 j h4] at hj
    exact hj) (by kernel_rfl) rfl (by rw [Array.length_toList]; kernel_rfl)
  rw [Array.toArray_toList] at h
  exact h
theorem eq4 (p q : Nat → BitVec 8) (w : World) : ∃ r, (Op.equalIn 10000 112 (.agg (bytesArr p 4)) (.agg (bytesArr q 4))).run Tryd.prog w = .ok r w ∧ (r = true ↔ ∀ i, i < 4 → p i = q i) :=
  ⟨_, run_eq_bytes (P := Tryd.prog) (t := 112) (e := 5) (n := 4) p q w (by kernel_rfl) (by kernel_rfl) (by kernel_rfl) (by kernel_rfl) (by kernel_rfl), decide_eq_true_iff⟩
theorem run_one (b o len cap : Nat) (hl : 5 ≤ len) (hc : len ≤ cap) (w : World) : (Instr.sliceAt 26 (.slice (some ⟨b, o, none⟩) len cap) (some (.int .i64 1)) none none).run Tryd.prog w = .ok (.slice (some ⟨b, o + 1, none⟩) (len - 1) (cap - 1)) w := by
  obtain ⟨a', h1, h2, _⟩ := run_from (some ⟨b, o, none⟩) 1 len cap (by omega)
  rw [h2 (by omega)] at h1
  have h := h1 w
  rw [show ((1 : Nat) : Int) = 1 from rfl] at h
  rw [h]
  simp [Addr.add_mid]
theorem sv_decide (f : Nat → BitVec 8) (len : Nat) (h0 : ¬ f 0 &&& 128#8 = 0#8) (h5 : 5 ≤ len) (r : Bool) (hr : r = true ↔ ∀ i, i < 4 → (fun i => f (1 + i)) i = (fun _ => 0#8) i) : r = decide (sv f len) := by
  rw [Bool.eq_iff_iff, hr, decide_eq_true_iff]
  unfold sv
  constructor
  · intro h
    exact ⟨h0, h5, h 0 (by omega), h 1 (by omega), h 2 (by omega), h 3 (by omega)⟩
  · rintro ⟨_, _, h1, h2, h3, h4⟩ i hi
    match i, hi with
    | 0, _ => exact h1
    | 1, _ => exact h2
    | 2, _ => exact h3
    | 3, _ => exact h4
set_option maxHeartbeats 4000000 in
theorem saysVersions_any (f : Nat → BitVec 8) (b off len cap : Nat) (w : World) (hl : 1 ≤ len) (hc : ∀ i, i < len → w.cell? ⟨b, off + i, none⟩ = some (.int .u8 (n8 (f i)))) (hlc : len ≤ cap) (hcm : cap ≤ maxLen) :
    Calls Tryd.prog 67 #[.slice (some ⟨b, off, none⟩) len cap] w fun e w' => e = .returned (.bool (decide (sv f len))) ∧ w = w' := by
  have hcell : w.cell? ⟨b, off, none⟩ = some (.int .u8 (n8 (f 0))) := by have h := hc 0 (by omega); simpa using h
  have hm : len ≤ 9223372036854775807 := by unfold maxLen at hcm; omega
  by_cases h0 : f 0 &&& 128#8 = 0#8
  · rw [decide_eq_false (show ¬ sv f len from fun h => h.1 h0)]
    have hb : (n8 (f 0 &&& 128#8) == 0) = true := by rw [bit_test, decide_eq_true h0]
    clear hc h0
    go_enter Tryd.func67, Tryd.ntmps67
    go_wp2_with fail
    go_ret
    exact ⟨rfl, rfl⟩
  · have hb : (n8 (f 0 &&& 128#8) == 0) = false := by rw [bit_test, decide_eq_false h0]
    by_cases h5 : 5 ≤ len
    · have hs := run_one b off len cap h5 hlc
      have har : ∀ w', (Instr.arrayAt 112 (.slice (some ⟨b, off + 1, none⟩) (len - 1) (cap - 1))).run Tryd.prog w' = .ok (.pointer (some ⟨b, off + 1, none⟩)) w' := fun w' => run_arrayAt w' 112 5 4 _ (len - 1) (cap - 1) (by kernel_rfl) (by omega)
      have hld := load4 (fun i => f (1 + i)) b (off + 1) w (fun i hi => by rw [Nat.add_assoc]; exact hc (1 + i) (by omega))
      obtain ⟨R, heq, hR⟩ := eq4 (fun i => f (1 + i)) (fun _ => 0#8) w
      rw [← sv_decide f len h0 h5 R hR]
      clear hR
      generalize bytesArr (fun i => f (1 + i)) 4 = X at hld heq
      rw [show bytesArr (fun _ => 0#8) 4 = #[.int .u8 0, .int .u8 0, .int .u8 0, .int .u8 0] from by rw [← zeros_bytes]; rfl] at heq
      clear hc h0
      go_enter Tryd.func67, Tryd.ntmps67
      go_wp2_with (first
        | (refine wpList_run (o := ⟨some 16, .load 112 _, _, _, _, _⟩) (v := .agg X) (w' := w) rfl (quiet_run hld) ?_)
        | fail)
      go_ret
      exact ⟨rfl, rfl⟩
    · rw [decide_eq_false (show ¬ sv f len from fun h => h5 h.2.1)]
      have h5i : (len : Int) < 5 := by omega
      clear hc h0
      go_enter Tryd.func67, Tryd.ntmps67
      go_wp2_with fail
      go_ret
      exact ⟨rfl, rfl⟩
/-- What Get answers of bytes. -/
def getP (f : Nat → BitVec 8) (len : Nat) (own : Int) : Got :=
  if ¬ (0 ≤ own ∧ own ≤ 20) then Got.no 1
  else if len = 0 then Got.no 3
  else if f 0 &&& 64#8 = 0#8 ∧ ¬ sv f len then Got.no 2
  else if f 0 &&& 128#8 = 0#8 then (if (len : Int) < 1 + own then Got.no 3 else ⟨4, 0, strOf (fun i => f (1 + i)) own.toNat, ⟨#[]⟩, ⟨#[]⟩, 0, [], 1 + own.toNat, len, 0⟩)
  else long f len
theorem hd_zero : (Tryd.prog.info? 66).map (·.zero) = some (some (.agg (hdC 0 0 ⟨#[]⟩ ⟨#[]⟩ ⟨#[]⟩ 0 0 0 false (.slice none 0 0)))) := by kernel_rfl
theorem GotPost.no_ (e : Int) (w0 w : World) (n : Nat) (hn : w0.heap.size = n) (h : Below n w0 w) (x : Ending) (hx : x = .returned (.tuple #[.agg (hdC 0 0 ⟨#[]⟩ ⟨#[]⟩ ⟨#[]⟩ 0 0 0 false (.slice none 0 0)), .int .i64 0, .int .i64 0, .int .i64 e])) : GotPost (Got.no e) w0 x w :=
  ⟨none, 0, hx, (fun y hy => by cases hy), ints_none _, by rw [hn]; exact h⟩
set_option maxHeartbeats 8000000 in
theorem getShort_any (f : Nat → BitVec 8) (b off len cap : Nat) (own : Int) (w : World) (hl : 1 ≤ len) (hB : BytesIn w (some ⟨b, off, none⟩) len f) (hlc : len ≤ cap) (hcm : cap ≤ maxLen) (h0 : 0 ≤ own) (h20 : own ≤ 20) :
    Calls Tryd.prog 68 #[.slice (some ⟨b, off, none⟩) len cap, .int .i64 own] w
      (GotPost (if (len : Int) < 1 + own then Got.no 3 else ⟨4, 0, strOf (fun i => f (1 + i)) own.toNat, ⟨#[]⟩, ⟨#[]⟩, 0, [], 1 + own.toNat, len, 0⟩) w) := by
  have hm : len ≤ 9223372036854775807 := by unfold maxLen at hcm; omega
  by_cases hlt : (len : Int) < 1 + own
  · rw [if_pos hlt]
    go_enter Tryd.func68, Tryd.ntmps68
    go_upto_region 1 with (first
      | (refine wpList_alloc_row (o := ⟨some 4, .alloc 66, _, _, _, _⟩) rfl 66 rfl _ hd_zero ?_)
      | fail)
    have rr := heap_alloc_last w (.cells (hdC 0 0 ⟨#[]⟩ ⟨#[]⟩ ⟨#[]⟩ 0 0 0 false (.slice none 0 0)) 66)
    have bel := (Below.refl w.heap.size w).alloc (Nat.le_refl _) (.cells (hdC 0 0 ⟨#[]⟩ ⟨#[]⟩ ⟨#[]⟩ 0 0 0 false (.slice none 0 0)) 66)
    generalize World.alloc _ _ = w1 at *
    have RR := Lib.hid rr
    have BEL := Lib.hid bel
    have NN : Hid (w.heap.size = w.heap.size) := Lib.hid rfl
    clear rr bel
    go_wp2_with (first
      | (refine wpList_store_row (op := ⟨none, .store 66 _ _, _, _, _, _⟩) rfl 66 _ _ rfl w.heap.size 66 _ (hdC 0 0 ⟨#[]⟩ ⟨#[]⟩ ⟨#[]⟩ 0 0 0 false (.slice none 0 0)) rfl rfl RR.out rfl (by kernel_rfl) (hdC_one _ _ _ _ _ _ _ _ _) ?_
         intro w9 rs
         have RS9 := Lib.hid rs
         clear rs)
      | fail)
    refine bodyPost_ret (results_hd rfl _ _ w.heap.size 66 (hdC 0 0 ⟨#[]⟩ ⟨#[]⟩ ⟨#[]⟩ 0 0 0 false (.slice none 0 0)) (0, 0) _ rfl RS9.out.row Tryd.underlying66 ⟨_, rfl⟩ (by kernel_rfl)) rfl ?_
    exact GotPost.no_ 3 w _ _ rfl (BEL.out.trans (RS9.out.below _ (Nat.le_refl _))) _ rfl
  · rw [if_neg hlt]
    obtain ⟨m, rfl⟩ : ∃ m : Nat, own = (m : Int) := ⟨own.toNat, by omega⟩
    rw [show ((m : Int)).toNat = m from rfl]
    obtain ⟨a', hcut, ha'⟩ := run_cut (some ⟨b, off, none⟩) 1 (1 + m) len cap (by omega) (by omega)
    rw [show 1 + m - 1 = m by omega, show ((1 : Nat) : Int) = 1 from rfl, show ((1 + m : Nat) : Int) = 1 + (m : Int) by omega] at hcut
    have hcv := Lib.hid (fun (w' : World) (hb : Below w.heap.size w w') => conv_cut (w := w') (a := some ⟨b, off, none⟩) (a' := a') (len := len) (cap := cap) (lo := 1) (n := m) (f := f) (by
      refine ⟨hB.1, ?_⟩
      rcases hB.2 with h | ⟨k, o, e1, hk, hc⟩
      · exact .inl h
      · exact .inr ⟨k, o, e1, Nat.lt_of_lt_of_le hk hb.size, fun i hi => by rw [hb.cell (p := ⟨k, o + i, none⟩) hk]; exact hc i hi⟩) (by omega) hlc ha' (cap - 1))
    clear hB
    generalize hS : strOf (fun i => f (1 + i)) m = S at hcv ⊢
    clear hS
    go_enter Tryd.func68, Tryd.ntmps68
    go_upto_region 1 with (first
      | (refine wpList_alloc_row (o := ⟨some 4, .alloc 66, _, _, _, _⟩) rfl 66 rfl _ hd_zero ?_)
      | fail)
    have rr := heap_alloc_last w (.cells (hdC 0 0 ⟨#[]⟩ ⟨#[]⟩ ⟨#[]⟩ 0 0 0 false (.slice none 0 0)) 66)
    have bel := (Below.refl w.heap.size w).alloc (Nat.le_refl _) (.cells (hdC 0 0 ⟨#[]⟩ ⟨#[]⟩ ⟨#[]⟩ 0 0 0 false (.slice none 0 0)) 66)
    generalize World.alloc _ _ = w1 at *
    have RR := Lib.hid rr
    have BEL := Lib.hid bel
    have cv := hcv.out w1 bel
    clear rr bel hcv
    go_wp2_with (first
      | (refine wpList_store_row (op := ⟨none, .store 66 _ _, _, _, _, _⟩) rfl 66 _ _ rfl w.heap.size 66 _ (hdC 4 0 S ⟨#[]⟩ ⟨#[]⟩ 0 0 0 false (.slice none 0 0)) rfl rfl RR.out rfl (by kernel_rfl) (hdC_one _ _ _ _ _ _ _ _ _) ?_
         intro w9 rs
         have RS9 := Lib.hid rs
         clear rs)
      | fail)
    refine bodyPost_ret (results_hd rfl _ _ w.heap.size 66 (hdC 4 0 S ⟨#[]⟩ ⟨#[]⟩ 0 0 0 false (.slice none 0 0)) (0, 0) _ rfl RS9.out.row Tryd.underlying66 ⟨_, rfl⟩ (by kernel_rfl)) rfl ?_
    exact ⟨none, 0, by rw [show ((1 + m : Nat) : Int) = 1 + (m : Int) by omega]; rfl, (fun y hy => by cases hy), ints_none _, BEL.out.trans (RS9.out.below _ (Nat.le_refl _))⟩
end Go.Proofs.YtcgbhcmgddgheaaDoor
