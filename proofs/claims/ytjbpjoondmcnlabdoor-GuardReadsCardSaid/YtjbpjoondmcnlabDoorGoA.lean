/-
  GUARD's Open, the program's and the document's, where they refuse at once.
-/
import Derived.Test.YtjbpjoondmcnlabDoorGsG
import Derived.Test.YtjbpjoondmcnlabDoorGsK
namespace Go.Proofs.YtjbpjoondmcnlabDoor
open Go Go.RowKit Go.BigFrame
set_option linter.unusedSimpArgs false
set_option linter.unusedVariables false
set_option maxRecDepth 100000
theorem results_tmp4 {fn : Func} {t u v x : Tmp} (h : fn.results = #[.tmp t, .tmp u, .tmp v, .tmp x]) (tmps : Array Value) (P : Program) (w : World) :
    (results fn tmps).run P w = .ok (.tuple #[tmps.getD t undef, tmps.getD u undef, tmps.getD v undef, tmps.getD x undef]) w := by
  simp [results, h]
def badOpen (k i mm : Nat) (P E : Int) : Prop := P < 1 ∨ ¬ (0 ≤ E ∧ E ≤ 4611686018427387903) ∨ ¬ (k = 16 ∧ i = 12 ∧ mm = 16)
set_option maxHeartbeats 4000000 in
theorem gopen_arg (K I M : ByteArray) (k i mm : Nat) (hK : K.size = k) (hI : I.size = i) (hM : M.size = mm) (P E : Int) (a : Option Addr) (m c : Nat) (w : World) (hbad : badOpen k i mm P E) :
    Calls Tryd.prog 14 #[.agg (kysC K I M), .slice a m c, .int .i64 P, .int .i64 E] w fun e w' => e = .returned (.tuple #[.slice none 0 0, .int .i64 0, .slice none 0 0, .int .i64 1]) ∧ Below w.heap.size w w' := by
  have R0 : (w.alloc (.cells (kysC K I M) 34)).heap[w.heap.size]? = some (.cells (kysC K I M) 34 (0, 0)) := heap_alloc_last _ _
  have hb1 : Below w.heap.size w (w.alloc (.cells (kysC K I M) 34)) := (Below.refl w.heap.size w).alloc (Nat.le_refl _) _
  have HB := Lib.hid hb1
  have NU := Lib.hid (numbers_any E (w.alloc (.cells (kysC K I M) 34)))
  have WH := Lib.hid (whole_any K I M k i mm hK hI hM (w.alloc (.cells (kysC K I M) 34)))
  obtain ⟨c0, c1, c2⟩ := kys_cells R0
  have BAD := Lib.hid hbad
  clear hbad hb1 R0 hK hI hM
  unfold kysC at *
  by_cases h1 : P < 1
  · go_enter Tryd.func14, Tryd.ntmps14
    go_wp2_with fail
    try simp only [Exit.inBlock, Exit.then]
    refine bodyPost_ret (results_tmp4 rfl _ _ _) rfl ?_
    exact ⟨rfl, HB.out⟩
  by_cases h3 : 0 ≤ E ∧ E ≤ 4611686018427387903
  · have NU2 := Lib.hid (by have := NU.out; rw [decide_eq_true h3] at this; exact this)
    have h4 : ¬ (k = 16 ∧ i = 12 ∧ mm = 16) := by
      rcases BAD.out with h | h | h
      · exact absurd h h1
      · exact absurd h3 h
      · exact h
    have WH2 := Lib.hid (by have := WH.out; rw [decide_eq_false h4] at this; exact this)
    clear BAD WH h3 h4 NU
    go_enter Tryd.func14, Tryd.ntmps14
    go_wp2_with (first
      | (go_at_call 35; refine NU2.out.mono ?_; rintro e w1 ⟨rfl, rfl⟩)
      | (go_at_call 36; refine WH2.out.mono ?_; rintro e w1 ⟨rfl, hb⟩; have B1 := Lib.hid (HB.out.trans (hb.mono HB.out.size)); clear hb))
    try simp only [Exit.inBlock, Exit.then]
    refine bodyPost_ret (results_tmp4 rfl _ _ _) rfl ?_
    exact ⟨rfl, B1.out⟩
  · have NU2 := Lib.hid (by have := NU.out; rw [decide_eq_false h3] at this; exact this)
    clear NU BAD WH h3
    go_enter Tryd.func14, Tryd.ntmps14
    go_wp2_with (go_at_call 35; refine NU2.out.mono ?_; rintro e w1 ⟨rfl, rfl⟩)
    try simp only [Exit.inBlock, Exit.then]
    refine bodyPost_ret (results_tmp4 rfl _ _ _) rfl ?_
    exact ⟨rfl, HB.out⟩
set_option maxHeartbeats 4000000 in
theorem gopen_tail (K I M : ByteArray) (hK : K.size = 16) (hI : I.size = 12) (hM : M.size = 16) (P E : Int) (h0 : 0 ≤ E) (h1 : E ≤ 4611686018427387903) (hP : 1 ≤ P) (hP2 : P ≤ 9223372036854775807) (a : Option Addr) (m c : Nat) (hm : m ≤ 4000) (ht : (m : Int) - P < 20) (w : World) :
    Calls Tryd.prog 14 #[.agg (kysC K I M), .slice a m c, .int .i64 P, .int .i64 E] w fun e w' => e = .returned (.tuple #[.slice none 0 0, .int .i64 0, .slice none 0 0, .int .i64 3]) ∧ Below w.heap.size w w' := by
  have R0 : (w.alloc (.cells (kysC K I M) 34)).heap[w.heap.size]? = some (.cells (kysC K I M) 34 (0, 0)) := heap_alloc_last _ _
  have hb1 : Below w.heap.size w (w.alloc (.cells (kysC K I M) 34)) := (Below.refl w.heap.size w).alloc (Nat.le_refl _) _
  have HB := Lib.hid hb1
  have NU2 := Lib.hid (by have := numbers_any E (w.alloc (.cells (kysC K I M) 34)); rw [decide_eq_true (show 0 ≤ E ∧ E ≤ 4611686018427387903 from ⟨h0, h1⟩)] at this; exact this)
  have WH2 := Lib.hid (by have := whole_any K I M 16 12 16 hK hI hM (w.alloc (.cells (kysC K I M) 34)); rw [decide_eq_true (show 16 = 16 ∧ 12 = 12 ∧ 16 = 16 from ⟨rfl, rfl, rfl⟩)] at this; exact this)
  obtain ⟨c0, c1, c2⟩ := kys_cells R0
  have hPn : ¬ P < 1 := by omega
  have hwr : IntKind.wrap .i64 ((m : Int) - P) = (m : Int) - P := by simp only [IntKind.wrap, IntKind.bits, IntKind.signed]; simp; omega
  clear hb1 R0 hK hI hM
  unfold kysC at *
  go_enter Tryd.func14, Tryd.ntmps14
  go_wp2_with (first
    | (go_at_call 35; refine NU2.out.mono ?_; rintro e w1 ⟨rfl, rfl⟩)
    | (go_at_call 36; refine WH2.out.mono ?_; rintro e w1 ⟨rfl, hb⟩; have B1 := Lib.hid (HB.out.trans (hb.mono HB.out.size)); clear hb))
  try simp only [Exit.inBlock, Exit.then]
  refine bodyPost_ret (results_tmp4 rfl _ _ _) rfl ?_
  exact ⟨rfl, B1.out⟩
set_option maxHeartbeats 4000000 in
theorem docOpen_arg (K I M : ByteArray) (k i mm : Nat) (hK : K.size = k) (hI : I.size = i) (hM : M.size = mm) (P E : Int) (B : ByteArray) (w : World) (hbad : badOpen k i mm P E) :
    Calls Tryd.prog 13 #[.agg (kysC K I M), .string B, .int .i64 P, .int .i64 E] w fun e w' => e = .returned (.tuple #[.string ⟨#[]⟩, .int .i64 0, .string ⟨#[]⟩, .int .i64 1]) ∧ Below w.heap.size w w' := by
  have R0 : (w.alloc (.cells (kysC K I M) 23)).heap[w.heap.size]? = some (.cells (kysC K I M) 23 (0, 0)) := heap_alloc_last _ _
  have hb1 : Below w.heap.size w (w.alloc (.cells (kysC K I M) 23)) := (Below.refl w.heap.size w).alloc (Nat.le_refl _) _
  have HB := Lib.hid hb1
  have WH := Lib.hid (right_any K I M k i mm hK hI hM (w.alloc (.cells (kysC K I M) 23)))
  obtain ⟨c0, c1, c2⟩ := kys_cells R0
  have BAD := Lib.hid hbad
  clear hbad hb1 R0 hK hI hM
  unfold kysC at *
  by_cases h1 : P < 1
  · go_enter Tryd.func13, Tryd.ntmps13
    go_wp2_with fail
    try simp only [Exit.inBlock, Exit.then]
    refine bodyPost_ret (results_tmp4 rfl _ _ _) rfl ?_
    exact ⟨rfl, HB.out⟩
  by_cases h2 : E < 0
  · go_enter Tryd.func13, Tryd.ntmps13
    go_wp2_with fail
    try simp only [Exit.inBlock, Exit.then]
    refine bodyPost_ret (results_tmp4 rfl _ _ _) rfl ?_
    exact ⟨rfl, HB.out⟩
  by_cases h3 : E > 4611686018427387903
  · go_enter Tryd.func13, Tryd.ntmps13
    go_wp2_with fail
    try simp only [Exit.inBlock, Exit.then]
    refine bodyPost_ret (results_tmp4 rfl _ _ _) rfl ?_
    exact ⟨rfl, HB.out⟩
  have h4 : ¬ (k = 16 ∧ i = 12 ∧ mm = 16) := by
    rcases BAD.out with h | h | h
    · exact absurd h h1
    · exact absurd ⟨by omega, by omega⟩ h
    · exact h
  have WH2 := Lib.hid (by have := WH.out; rw [decide_eq_false h4] at this; exact this)
  clear BAD WH h4
  go_enter Tryd.func13, Tryd.ntmps13
  go_wp2_with (go_at_call 21; refine WH2.out.mono ?_; rintro e w1 ⟨rfl, hb⟩; have B1 := Lib.hid (HB.out.trans (hb.mono HB.out.size)); clear hb)
  try simp only [Exit.inBlock, Exit.then]
  refine bodyPost_ret (results_tmp4 rfl _ _ _) rfl ?_
  exact ⟨rfl, B1.out⟩
set_option maxHeartbeats 4000000 in
theorem docOpen_tail (K I M : ByteArray) (hK : K.size = 16) (hI : I.size = 12) (hM : M.size = 16) (P E : Int) (h0 : 0 ≤ E) (h1 : E ≤ 4611686018427387903) (hP : 1 ≤ P) (hP2 : P ≤ 9223372036854775807) (B : ByteArray) (m : Nat) (hB : B.size = m) (hm : m ≤ 4000) (ht : (m : Int) - P < 20) (w : World) :
    Calls Tryd.prog 13 #[.agg (kysC K I M), .string B, .int .i64 P, .int .i64 E] w fun e w' => e = .returned (.tuple #[.string ⟨#[]⟩, .int .i64 0, .string ⟨#[]⟩, .int .i64 3]) ∧ Below w.heap.size w w' := by
  have R0 : (w.alloc (.cells (kysC K I M) 23)).heap[w.heap.size]? = some (.cells (kysC K I M) 23 (0, 0)) := heap_alloc_last _ _
  have hb1 : Below w.heap.size w (w.alloc (.cells (kysC K I M) 23)) := (Below.refl w.heap.size w).alloc (Nat.le_refl _) _
  have HB := Lib.hid hb1
  have WH2 := Lib.hid (by have := right_any K I M 16 12 16 hK hI hM (w.alloc (.cells (kysC K I M) 23)); rw [decide_eq_true (show 16 = 16 ∧ 12 = 12 ∧ 16 = 16 from ⟨rfl, rfl, rfl⟩)] at this; exact this)
  obtain ⟨c0, c1, c2⟩ := kys_cells R0
  have hPn : ¬ P < 1 := by omega
  have hE1 : ¬ E < 0 := by omega
  have hE2 : ¬ E > 4611686018427387903 := by omega
  have hwr : IntKind.wrap .i64 ((m : Int) - P) = (m : Int) - P := by simp only [IntKind.wrap, IntKind.bits, IntKind.signed]; simp; omega
  clear hb1 R0 hK hI hM
  unfold kysC at *
  by_cases hgt : P > (m : Int)
  all_goals
    go_enter Tryd.func13, Tryd.ntmps13
    go_wp2_with (go_at_call 21; refine WH2.out.mono ?_; rintro e w1 ⟨rfl, hb⟩; have B1 := Lib.hid (HB.out.trans (hb.mono HB.out.size)); clear hb)
    try simp only [Exit.inBlock, Exit.then]
    refine bodyPost_ret (results_tmp4 rfl _ _ _) rfl ?_
    exact ⟨rfl, B1.out⟩
end Go.Proofs.YtjbpjoondmcnlabDoor
