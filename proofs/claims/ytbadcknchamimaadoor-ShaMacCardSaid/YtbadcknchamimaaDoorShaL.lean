/-
  sha: the law's first test: "abc" has its sum.
-/
import Derived.Test.YtbadcknchamimaaDoorShaJ
import Derived.Test.YtbadcknchamimaaDoorShaLen
import Derived.Test.YtbadcknchamimaaDoorShaK
namespace Go.Proofs.YtbadcknchamimaaDoor
open Go Go.RowKit Go.BigFrame
set_option linter.unusedSimpArgs false
set_option linter.unusedVariables false
theorem freeze_new (w : World) (C : Array Value) (e : TypeId) (n : Nat) : (w.alloc (.cells C e)).freeze ⟨w.heap.size, n, none⟩ 1 = w.alloc (.cells C e (n, n + 1)) := by
  have hm : ∀ (a : Array Obj) (x : Obj) (f : Obj → Obj), (a.push x).modify a.size f = a.push (f x) := by
    intro a x f
    apply Array.ext
    · simp
    · intro i h1 h2
      simp only [Array.getElem_modify, Array.getElem_push]
      by_cases h : a.size = i
      · subst h
        simp
      · have hi : i < a.size := by simp at h1; omega
        simp [h, hi]
  unfold World.freeze
  rw [if_neg (by decide)]
  show ({ w.alloc (.cells C e) with heap := (w.heap.push (.cells C e)).modify w.heap.size _ } : World) = _
  rw [hm]
  rfl
theorem conv_same (w : World) (C : Array Value) (e : TypeId) (n c : Nat) : (convert 22 22 (.slice (some ⟨w.heap.size, 0, none⟩) n c)).run Tryd.prog (w.alloc (.cells C e)) = .ok (.slice (some ⟨w.heap.size, 0, none⟩) n c) (w.alloc (.cells C e (C.size, C.size + 1))) := by
  have hu : Tryd.prog.underlying 22 = some (.slice 5) := by kernel_rfl
  have h8 : Tryd.prog.underlying 5 = some (.int .u8) := by kernel_rfl
  have hsh : (w.alloc (.cells C e)).shape? w.heap.size = some (e, C.size) := by
    unfold World.shape?
    rw [show (w.alloc (.cells C e)).heap[w.heap.size]? = some (.cells C e) from heap_alloc_last _ _]
  have h1 : (convert 22 22 (.slice (some ⟨w.heap.size, 0, none⟩) n c)).run Tryd.prog (w.alloc (.cells C e)) = .ok (.slice (some ⟨w.heap.size, 0, none⟩) n c) ((w.alloc (.cells C e)).freeze ⟨w.heap.size, C.size, none⟩ 1) := by
    unfold convert
    simp only [Sem.run_bind, run_underlying hu, Result.andThen_ok, run_underlying h8]
    simp [markStringish, hsh, Sem.run_bind, run_underlying h8]
  rw [h1, freeze_new]
set_option maxHeartbeats 4000000 in
set_option maxRecDepth 100000 in
theorem digests_any (w : World) (T : TabK w) : Calls Tryd.prog 9 #[] w fun e w' => e = .returned (.bool true) ∧ Below w.heap.size w w' := by
  have TL := T.lt
  have hcv : (convert 22 22 (.slice (some ⟨w.heap.size, 0, none⟩) 3 3)).run Tryd.prog (w.alloc (.cells #[.int .u8 97, .int .u8 98, .int .u8 99] 5)) = .ok (.slice (some ⟨w.heap.size, 0, none⟩) 3 3) (w.alloc (.cells #[.int .u8 97, .int .u8 98, .int .u8 99] 5 (3, 4))) := conv_same w _ _ 3 3
  go_enter Tryd.func9, Tryd.ntmps9
  go_wp2_with fail
  obtain ⟨wa, hwa⟩ : ∃ wa, w.alloc (.cells #[.int .u8 97, .int .u8 98, .int .u8 99] 5 (3, 4)) = wa := ⟨_, rfl⟩
  have K0 : wa.heap[w.heap.size]? = some (.cells #[.int .u8 97, .int .u8 98, .int .u8 99] 5 (3, 4)) := by rw [← hwa]; exact heap_alloc_last _ _
  have hb : Below w.heap.size w wa := by rw [← hwa]; exact (Below.refl _ _).alloc (Nat.le_refl _) _
  simp only [hwa]
  clear hwa
  have e97 : n8 97#8 = 97 := by unfold n8; rfl
  have e98 : n8 98#8 = 98 := by unfold n8; rfl
  have e99 : n8 99#8 = 99 := by unfold n8; rfl
  have BI : BytesIn wa (some ⟨w.heap.size, 0, none⟩) 3 abcF := ⟨by unfold maxLen; omega, .inr ⟨w.heap.size, 0, rfl, lt_row K0, fun i hi => by
    rw [Nat.zero_add, cell_of_row _ _ _ _ _ _ K0]
    rcases (by omega : i = 0 ∨ i = 1 ∨ i = 2) with rfl | rfl | rfl
    · show some (Value.int .u8 97) = some (Value.int .u8 (n8 97#8)); rw [e97]
    · show some (Value.int .u8 98) = some (Value.int .u8 (n8 98#8)); rw [e98]
    · show some (Value.int .u8 99) = some (Value.int .u8 (n8 99#8)); rw [e99]⟩⟩
  have SM := Lib.hid (shaSum_any 3 3 abcF (some ⟨w.heap.size, 0, none⟩) wa (T.later hb) BI (Nat.le_refl _) (by unfold maxLen; omega) (by omega))
  have HB := Lib.hid hb
  clear K0 hb BI T e97 e98 e99
  obtain ⟨s0, s1, s31⟩ := abc_sum abcF rfl rfl rfl
  obtain ⟨sm, hsm⟩ : ∃ sm, sumS abcF 3 = sm := ⟨_, rfl⟩
  rw [hsm] at s0 s1 s31 SM
  clear hsm
  with_reducible refine SM.out.mono ?_
  rintro e w3 ⟨rfl, hb3⟩
  have hal : Below w3.heap.size w3 (w3.alloc (.cells (bytesA sm 32) 24)) := (Below.refl _ _).alloc (Nat.le_refl _) _
  have hal2 : (w3.alloc (.cells (bytesA sm 32) 24)).heap[w3.heap.size]? = some (.cells (bytesA sm 32) 24 (0, 0)) := heap_alloc_last _ _
  go_upto_region 2 with (first
    | (refine wpList_alloc_row (o := ⟨some 1, .alloc 24, _, _, _, _⟩) rfl 24 rfl _ zero_32 ?_)
    | (refine wpList_store_new (o := ⟨none, .store 24 (.tmp 1) (.tmp 4), _, _, _, _⟩) rfl 24 _ _ rfl (bytesA (fun _ => 0#8) 32) (bytesA sm 32) _ rfl rfl rfl (by rw [bytesA_size]; kernel_rfl) (by rw [bytesA_size, bytesA_size]) (bytesA_one _ _) ?_))
  obtain ⟨w4, hw4⟩ : ∃ w4, w3.alloc (.cells (bytesA sm 32) 24) = w4 := ⟨_, rfl⟩
  rw [hw4] at hal hal2
  simp only [hw4]
  have B4 := Lib.hid ((HB.out.trans (hb3.mono HB.out.size)).trans (hal.mono (Nat.le_trans HB.out.size hb3.size)))
  generalize w3.heap.size = s at *
  have e186 : n8 186#8 = 186 := by unfold n8; rfl
  have e120 : n8 120#8 = 120 := by unfold n8; rfl
  have e173 : n8 173#8 = 173 := by unfold n8; rfl
  have c0 : w4.cell? ⟨s, 0, none⟩ = some (.int .u8 186) := by rw [row_range hal2 (by omega), s0, e186]
  have c1 : w4.cell? ⟨s, 1, none⟩ = some (.int .u8 120) := by rw [row_range hal2 (by omega), s1, e120]
  have c31 : w4.cell? ⟨s, 31, none⟩ = some (.int .u8 173) := by rw [row_range hal2 (by omega), s31, e173]
  clear hal hal2 s0 s1 s31 hb3 HB SM hw4 e186 e120 e173
  go_wp2_with fail
  go_ret
  exact ⟨rfl, B4.out⟩
theorem none_any (w : World) : Calls Tryd.prog 14 #[] w fun e w' => e = .returned (.pointer none) ∧ w = w' := by
  go_enter Tryd.func14, Tryd.ntmps14
  go_wp2_with fail
  go_ret
  exact ⟨rfl, rfl⟩
end Go.Proofs.YtbadcknchamimaaDoor
