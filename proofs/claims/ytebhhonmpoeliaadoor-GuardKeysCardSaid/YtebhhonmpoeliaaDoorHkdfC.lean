/-
  hkdf: Extract; a row that '[]byte(text)' marks.
-/
import Derived.Test.YtebhhonmpoeliaaDoorHkdfB
namespace Go.Proofs.YtebhhonmpoeliaaDoor
open Go Go.RowKit Go.BigFrame
set_option linter.unusedSimpArgs false
set_option linter.unusedVariables false
theorem freeze_new (w : World) (C : Array Value) (e : TypeId) (n : Nat) : (w.alloc (.cells C e)).freeze ⟨w.heap.size, n, none⟩ 1 = w.alloc (.cells C e (n, n + 1)) := by
  have hm : ∀ (a : Array Obj) (x : Obj) (f : Obj → Obj), (a.push x).modify a.size f = a.push (f x) := by
    intro a x f
    apply Array.ext
    · simp
    · intro i h1 h2
      simp only [Array.getElem_modify, Array.getElem_push]
      by_cases h : a.size = i
      · subst h
        simp
      · have hi : i < a.size := by simp at h1; omega
        simp [h, hi]
  unfold World.freeze
  rw [if_neg (by decide)]
  show ({ w.alloc (.cells C e) with heap := (w.heap.push (.cells C e)).modify w.heap.size _ } : World) = _
  rw [hm]
  rfl
theorem conv_same (w : World) (C : Array Value) (e : TypeId) (n c : Nat) : (convert 40 40 (.slice (some ⟨w.heap.size, 0, none⟩) n c)).run Tryd.prog (w.alloc (.cells C e)) = .ok (.slice (some ⟨w.heap.size, 0, none⟩) n c) (w.alloc (.cells C e (C.size, C.size + 1))) := by
  have hu : Tryd.prog.underlying 40 = some (.slice 5) := by kernel_rfl
  have h8 : Tryd.prog.underlying 5 = some (.int .u8) := by kernel_rfl
  have hsh : (w.alloc (.cells C e)).shape? w.heap.size = some (e, C.size) := by
    unfold World.shape?
    rw [show (w.alloc (.cells C e)).heap[w.heap.size]? = some (.cells C e) from heap_alloc_last _ _]
  have h1 : (convert 40 40 (.slice (some ⟨w.heap.size, 0, none⟩) n c)).run Tryd.prog (w.alloc (.cells C e)) = .ok (.slice (some ⟨w.heap.size, 0, none⟩) n c) ((w.alloc (.cells C e)).freeze ⟨w.heap.size, C.size, none⟩ 1) := by
    unfold convert
    simp only [Sem.run_bind, run_underlying hu, Result.andThen_ok, run_underlying h8]
    simp [markStringish, hsh, Sem.run_bind, run_underlying h8]
  rw [h1, freeze_new]
theorem bytesA_one1 (x : BitVec 8) : bytesA (fun _ => x) 1 = #[.int .u8 (n8 x)] := rfl
theorem one_in {w : World} {p : Nat} {T : TypeId} {fr : Nat × Nat} (x : BitVec 8) (k : Int) (k' : Int) (hx : n8 x = k') (h : w.heap[p]? = some (.cells #[.int .u8 k'] T fr)) : BytesIn w (some ⟨p, 0, none⟩) 1 (fun _ => x) :=
  ⟨by unfold maxLen; omega, .inr ⟨p, 0, rfl, lt_of_heap h, fun i hi => by
    obtain rfl : i = 0 := by omega
    rw [cell_of_row _ _ _ _ _ _ h, hx]; rfl⟩⟩
theorem nil_in (f : Nat → BitVec 8) (w : World) : BytesIn w none 0 f := ⟨Nat.zero_le _, .inl rfl⟩
set_option maxRecDepth 100000 in
theorem extract_any (m c n c' : Nat) (f g : Nat → BitVec 8) (a a' : Option Addr) (w : World) (T : TabK w) (hx : BytesIn w a m f) (hc : m ≤ c) (hcm : c ≤ maxLen) (hm : m ≤ 1000000) (hy : BytesIn w a' n g) (hc' : n ≤ c') (hcm' : c' ≤ maxLen) (hn : n ≤ 1000000) :
    Calls Tryd.prog 17 #[.slice a m c, .slice a' n c'] w fun e w' => ∃ b, e = .returned (.slice (some ⟨b, 0, none⟩) 32 32) ∧ w.heap.size ≤ b ∧ w'.heap[b]? = some (.cells (bytesA (macB (keyB f m) g n) 32) 42 (0, 0)) ∧ Below w.heap.size w w' := by
  have MC := Lib.hid (mac_any m c n c' f g a a' w T hx hc hcm (by omega) hy hc' hcm' (by omega))
  obtain ⟨t, ht⟩ : ∃ t, macB (keyB f m) g n = t := ⟨_, rfl⟩
  rw [ht] at MC ⊢
  clear hx hy T ht
  go_enter Tryd.func17, Tryd.ntmps17
  go_wp2_with fail
  with_reducible refine MC.out.mono ?_
  rintro e w1 ⟨rfl, hb1⟩
  have hal : Below w1.heap.size w1 (w1.alloc (.cells (bytesA t 32) 42)) := (Below.refl _ _).alloc (Nat.le_refl _) _
  have hal2 : (w1.alloc (.cells (bytesA t 32) 42)).heap[w1.heap.size]? = some (.cells (bytesA t 32) 42 (0, 0)) := heap_alloc_last _ _
  go_upto_region 2 with (first
    | (refine wpList_alloc_row (o := ⟨some 5, .alloc 42, _, _, _, _⟩) rfl 42 rfl _ zero_32 ?_)
    | (refine wpList_store_new (o := ⟨none, .store 42 (.tmp 5) (.tmp 8), _, _, _, _⟩) rfl 42 _ _ rfl (bytesA (fun _ => 0#8) 32) (bytesA t 32) _ rfl rfl rfl (by rw [bytesA_size]; kernel_rfl) (by rw [bytesA_size, bytesA_size]) (bytesA_one _ _) ?_))
  have B1 := Lib.hid (hb1.trans (hal.mono hb1.size))
  have S1 := Lib.hid hb1.size
  obtain ⟨w2, hw2⟩ : ∃ w2, w1.alloc (.cells (bytesA t 32) 42) = w2 := ⟨_, rfl⟩
  rw [hw2] at hal2 B1
  simp only [hw2]
  have R := Lib.hid hal2
  have hall := fun w' => run_arr32_all w' w1.heap.size
  clear hal hal2 hw2 hb1 MC
  generalize w1.heap.size = q at *
  go_wp2_with fail
  go_ret
  exact ⟨q, rfl, S1.out, R.out, B1.out⟩
end Go.Proofs.YtebhhonmpoeliaaDoor
