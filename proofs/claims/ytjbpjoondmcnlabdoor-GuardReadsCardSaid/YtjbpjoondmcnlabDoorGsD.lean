/-
  guard: what can be sealed.
-/
import Derived.Test.YtjbpjoondmcnlabDoorGsB
import Derived.Test.YtjbpjoondmcnlabDoorMg32
namespace Go.Proofs.YtjbpjoondmcnlabDoor
open Go Go.RowKit Go.BigFrame
set_option linter.unusedSimpArgs false
set_option linter.unusedVariables false
set_option maxRecDepth 100000
theorem and3 (x : BitVec 8) : n8 (x &&& 3#8) = ((x.toNat % 4 : Nat) : Int) := by
  rw [n8_nat, BitVec.toNat_and]
  exact congrArg _ (Nat.and_two_pow_sub_one_eq_mod x.toNat 2)
theorem low_of (N : Int) (h0 : 0 ≤ N) (h1 : N ≤ 4611686018427387903) (j : Nat) (hj : j ≤ 32) : bits .and .i64 N ((2 : Int) ^ j - 1) = N % 2 ^ j := by
  obtain ⟨n, rfl⟩ := Int.eq_ofNat_of_zero_le h0
  have hp : (2 : Nat) ^ j ≤ 2 ^ 32 := Nat.pow_le_pow_right (by omega) hj
  have hp0 : 0 < (2 : Nat) ^ j := Nat.pow_pos (by omega)
  have e1 : ((2 : Int) ^ j - 1) = ((2 ^ j - 1 : Nat) : Int) := by
    rw [Int.natCast_sub hp0]; simp
  rw [e1]
  show IntKind.wrap .i64 _ = _
  have e3 : (BitVec.ofInt (IntKind.bits .i64) ((n : Nat) : Int) &&& BitVec.ofInt (IntKind.bits .i64) ((2 ^ j - 1 : Nat) : Int)).toNat = n % 2 ^ j := by
    show (BitVec.ofInt 64 ((n : Nat) : Int) &&& BitVec.ofInt 64 ((2 ^ j - 1 : Nat) : Int)).toNat = _
    rw [BitVec.toNat_and, BitVec.toNat_ofInt, BitVec.toNat_ofInt]
    rw [show (((n : Nat) : Int) % ((2 ^ 64 : Nat) : Int)).toNat = n by omega, show (((2 ^ j - 1 : Nat) : Int) % ((2 ^ 64 : Nat) : Int)).toNat = 2 ^ j - 1 by omega]
    exact Nat.and_two_pow_sub_one_eq_mod n j
  rw [e3]
  have hlt : n % 2 ^ j < 2 ^ 32 := Nat.lt_of_lt_of_le (Nat.mod_lt _ hp0) hp
  rw [show ((n : Nat) : Int) % 2 ^ j = ((n % 2 ^ j : Nat) : Int) by simp]
  generalize n % 2 ^ j = x at *
  simp only [IntKind.wrap, IntKind.bits, IntKind.signed]
  simp
  omega
theorem run_from_at (w : World) (g o lo n c : Nat) (L : Int) (hL : L = (lo : Int)) (h2 : lo < n) (h3 : n ≤ c) :
    (Instr.sliceAt 31 (.slice (some ⟨g, o, none⟩) n c) (some (.int .i64 L)) none none).run Tryd.prog w = .ok (.slice (some ⟨g, o + lo, none⟩) (n - lo) (c - lo)) w := by
  subst hL
  have hu : Tryd.prog.underlying 31 = some (.slice (Tryd.prog.elem 31)) := by kernel_rfl
  have e0 : (0 : Int) ≤ (lo : Int) := by omega
  have e1 : (lo : Int) ≤ (n : Int) := by omega
  have e2 : (n : Int) ≤ (c : Int) := by omega
  have e3 : ¬ c = lo := by omega
  have e4 : ((⟨g, o, none⟩ : Addr).add lo) = ⟨g, o + lo, none⟩ := by unfold Addr.add; split <;> simp_all
  rw [run_sliceAt_slice (t := 31) (h := hu), run_slice_any (t := 31) (ht := hu)]
  simp [Instr.sliceBounds, go_sem, e0, e1, e2, e3, e4]
  try omega
theorem load_kys {w : World} {b : Nat} {T : TypeId} {K I M : ByteArray} (h : w.heap[b]? = some (.cells (kysC K I M) T (0, 0))) : (Instr.loadAt 34 (.pointer (some ⟨b, 0, none⟩))).run Tryd.prog w = .ok (.agg (kysC K I M)) w := by
  have h1 := run_loadAt_mid (P := Tryd.prog) w b 0 34 (kysC K I M).toList _ (fun j u hj => by
    rw [Nat.zero_add, cell_of_row _ _ _ _ _ _ h]
    simpa using hj) Tryd.underlying34 rfl (by kernel_rfl)
  simpa using h1
theorem load_kysR {w : World} {b : Nat} {T : TypeId} {K I M : ByteArray} (h : w.heap[b]? = some (.cells (kysC K I M) T (0, 0))) : (Instr.loadAt 23 (.pointer (some ⟨b, 0, none⟩))).run Tryd.prog w = .ok (.agg (kysC K I M)) w := by
  have h1 := run_loadAt_mid (P := Tryd.prog) w b 0 23 (kysC K I M).toList _ (fun j u hj => by
    rw [Nat.zero_add, cell_of_row _ _ _ _ _ _ h]
    simpa using hj) Tryd.underlying23 rfl (by kernel_rfl)
  simpa using h1
/-- What speaks against sealing. -/
def badArg (k i mm m : Nat) (S N : Int) : Prop := S < 1 ∨ 4 < S ∨ ¬ (0 ≤ N ∧ N ≤ 4611686018427387903) ∨ ¬ (k = 16 ∧ i = 12 ∧ mm = 16) ∨ (m : Int) < S + 1
def formOk (f : Nat → BitVec 8) (m s : Nat) (N : Int) : Prop := (f 0).toNat % 4 + 1 = s ∧ ((numG (fun i => f (m - s + i)) s : Nat) : Int) = N % 2 ^ (8 * s)
set_option maxHeartbeats 4000000 in
theorem sealable_arg (K I M : ByteArray) (k i mm : Nat) (hK : K.size = k) (hI : I.size = i) (hM : M.size = mm) (S N : Int) (hS0 : 0 - 9223372036854775808 ≤ S) (hS1 : S ≤ 9223372036854775807) (a a2 : Option Addr) (m c n c2 : Nat) (hm : m ≤ 4000) (w : World) (hbad : badArg k i mm m S N) :
    Calls Tryd.prog 25 #[.agg (kysC K I M), .slice a m c, .int .i64 S, .int .i64 N, .slice a2 n c2] w fun e w' => e = .returned (.int .i64 1) ∧ Below w.heap.size w w' := by
  have R0 : (w.alloc (.cells (kysC K I M) 34)).heap[w.heap.size]? = some (.cells (kysC K I M) 34 (0, 0)) := heap_alloc_last _ _
  have hb1 : Below w.heap.size w (w.alloc (.cells (kysC K I M) 34)) := (Below.refl w.heap.size w).alloc (Nat.le_refl _) _
  have HB := Lib.hid hb1
  have NU := Lib.hid (numbers_any N (w.alloc (.cells (kysC K I M) 34)))
  have WH := Lib.hid (whole_any K I M k i mm hK hI hM (w.alloc (.cells (kysC K I M) 34)))
  obtain ⟨c0, c1, c2⟩ := kys_cells R0
  have BAD := Lib.hid hbad
  clear hbad hb1 R0 hK hI hM
  unfold kysC at *
  by_cases h1 : S < 1
  · go_enter Tryd.func25, Tryd.ntmps25
    go_wp2_with fail
    go_ret
    exact ⟨rfl, HB.out⟩
  by_cases h2 : S > 4
  · go_enter Tryd.func25, Tryd.ntmps25
    go_wp2_with fail
    go_ret
    exact ⟨rfl, HB.out⟩
  by_cases h3 : 0 ≤ N ∧ N ≤ 4611686018427387903
  · have NU2 := Lib.hid (by have := NU.out; rw [decide_eq_true h3] at this; exact this)
    clear NU
    by_cases h4 : k = 16 ∧ i = 12 ∧ mm = 16
    · have WH2 := Lib.hid (by have := WH.out; rw [decide_eq_true h4] at this; exact this)
      have h5 : (m : Int) < S + 1 := by
        rcases BAD.out with h | h | h | h | h
        · omega
        · omega
        · exact absurd h3 h
        · exact absurd h4 h
        · exact h
      clear BAD WH h3 h4
      go_enter Tryd.func25, Tryd.ntmps25
      go_wp2_with (first
        | (go_at_call 35; refine NU2.out.mono ?_; rintro e w1 ⟨rfl, rfl⟩)
        | (go_at_call 36; refine WH2.out.mono ?_; rintro e w1 ⟨rfl, hb⟩; have B1 := Lib.hid (HB.out.trans (hb.mono HB.out.size)); clear hb))
      go_ret
      exact ⟨rfl, B1.out⟩
    · have WH2 := Lib.hid (by have := WH.out; rw [decide_eq_false h4] at this; exact this)
      clear BAD WH h3 h4
      go_enter Tryd.func25, Tryd.ntmps25
      go_wp2_with (first
        | (go_at_call 35; refine NU2.out.mono ?_; rintro e w1 ⟨rfl, rfl⟩)
        | (go_at_call 36; refine WH2.out.mono ?_; rintro e w1 ⟨rfl, hb⟩; have B1 := Lib.hid (HB.out.trans (hb.mono HB.out.size)); clear hb))
      go_ret
      exact ⟨rfl, B1.out⟩
  · have NU2 := Lib.hid (by have := NU.out; rw [decide_eq_false h3] at this; exact this)
    clear NU BAD WH h3
    go_enter Tryd.func25, Tryd.ntmps25
    go_wp2_with (go_at_call 35; refine NU2.out.mono ?_; rintro e w1 ⟨rfl, rfl⟩)
    go_ret
    exact ⟨rfl, HB.out⟩
set_option maxHeartbeats 4000000 in
theorem sealable_1 (K I M : ByteArray) (hK : K.size = 16) (hI : I.size = 12) (hM : M.size = 16) (N : Int) (h0 : 0 ≤ N) (h1 : N ≤ 4611686018427387903) (a a2 : Option Addr) (m c n c2 : Nat) (f : Nat → BitVec 8) (hm : m ≤ 4000) (hc : m ≤ c) (w : World) (hsm : 1 + 1 ≤ m) (h : BytesIn w a m f) (r : Int)
    (hr : (¬ formOk f m 1 N ∧ r = 2) ∨ (formOk f m 1 N ∧ n + 1 < 4 ∧ r = 3) ∨ (formOk f m 1 N ∧ ¬ n + 1 < 4 ∧ 65000 < n ∧ r = 5) ∨ (formOk f m 1 N ∧ ¬ n + 1 < 4 ∧ ¬ 65000 < n ∧ r = 0)) :
    Calls Tryd.prog 25 #[.agg (kysC K I M), .slice a m c, .int .i64 1, .int .i64 N, .slice a2 n c2] w fun e w' => e = .returned (.int .i64 r) ∧ Below w.heap.size w w' := by
  have R0 : (w.alloc (.cells (kysC K I M) 34)).heap[w.heap.size]? = some (.cells (kysC K I M) 34 (0, 0)) := heap_alloc_last _ _
  have hb1 : Below w.heap.size w (w.alloc (.cells (kysC K I M) 34)) := (Below.refl w.heap.size w).alloc (Nat.le_refl _) _
  have HB := Lib.hid hb1
  have NU := Lib.hid (by have := numbers_any N (w.alloc (.cells (kysC K I M) 34)); rw [decide_eq_true (show 0 ≤ N ∧ N ≤ 4611686018427387903 from ⟨h0, h1⟩)] at this; exact this)
  have WH := Lib.hid (by have := whole_any K I M 16 12 16 hK hI hM (w.alloc (.cells (kysC K I M) 34)); rw [decide_eq_true (show 16 = 16 ∧ 12 = 12 ∧ 16 = 16 from ⟨rfl, rfl, rfl⟩)] at this; exact this)
  obtain ⟨c0, c1, c2⟩ := kys_cells R0
  obtain ⟨_, h0' | ⟨b, o, rfl, hb, hcell⟩⟩ := id h
  · omega
  have HBL := Lib.hid hb
  have VO := Lib.hid (fun (w' : World) (hbl : Below w.heap.size w w') => valueOf_any (some ⟨b, o + (m - 1), none⟩) 1 (c - (m - 1)) (fun i => f (m - 1 + i)) (by omega) w' (by
    refine ⟨by unfold maxLen; omega, .inr ⟨b, o + (m - 1), rfl, Nat.lt_of_lt_of_le hb hbl.size, fun i hi => ?_⟩⟩
    rw [hbl.cell (p := ⟨b, o + (m - 1) + i, none⟩) hb, show o + (m - 1) + i = o + (m - 1 + i) by omega]
    exact hcell (m - 1 + i) (by omega)))
  have HR := Lib.hid hr
  have hlow : bits .and .i64 N 255 = N % 256 := by
    have h := low_of N h0 h1 8 (by omega)
    rw [show (2 : Int) ^ 8 - 1 = 255 from by decide, show (2 : Int) ^ 8 = 256 from by decide] at h
    exact h
  have hf0 := and3 (f 0)
  have hcz := hcell 0 (by omega)
  rw [Nat.add_zero] at hcz
  have HZ := Lib.hid hcz
  clear hcz
  have hmI : ¬ (m : Int) < 2 := by omega
  have s1 := fun w' => run_from_at w' b o (m - 1) m c ((m : Int) - 1) (by omega) (by omega) hc
  rw [show m - (m - 1) = 1 by omega] at s1
  unfold formOk at HR
  rw [show (2 : Int) ^ (8 * 1) = 256 from by decide] at HR
  have hml : (((f 0).toNat % 4 : Nat) : Int) ≤ 3 := by omega
  generalize hq : (f 0).toNat % 4 = q at *
  clear hr h hcell R0 hb1 hK hI hM
  unfold kysC at *
  generalize numG (fun i => f (m - 1 + i)) 1 = G at *
  generalize hZ : N % 256 = Z at *
  clear hZ
  by_cases hfm : (q : Int) = 0
  · have hbq : q = 0 := by omega
    subst hbq
    by_cases hg : (G : Int) = Z
    · by_cases hn : n + 1 < 4
      · have hnI : (n : Int) < 3 := by omega
        obtain rfl : r = 3 := by
          rcases HR.out with h | h | h | h
          · exact absurd ⟨by omega, hg⟩ h.1
          · exact h.2.2
          · omega
          · omega
        clear HR
        subst hg
        go_enter Tryd.func25, Tryd.ntmps25
        go_wp2_with (first
        | (go_at_call 35; refine NU.out.mono ?_; rintro e w1 ⟨rfl, rfl⟩)
        | (go_at_call 36; refine WH.out.mono ?_; rintro e w1 ⟨rfl, hb⟩; have B1 := Lib.hid (HB.out.trans (hb.mono HB.out.size)); have hcz := (B1.out.cell (p := ⟨b, o, none⟩) HBL.out).trans HZ.out; clear hb)
        | (go_at_call 39; refine (VO.out _ B1.out).mono ?_; rintro e w2 ⟨rfl, rfl⟩))
        go_ret
        exact ⟨rfl, B1.out⟩
      · have hnI : ¬ (n : Int) < 3 := by omega
        by_cases hb5 : 65000 < n
        · have hn5 : (65000 : Int) < (n : Int) := by omega
          obtain rfl : r = 5 := by
            rcases HR.out with h | h | h | h
            · exact absurd ⟨by omega, hg⟩ h.1
            · omega
            · exact h.2.2.2
            · omega
          clear HR
          subst hg
          go_enter Tryd.func25, Tryd.ntmps25
          go_wp2_with (first
        | (go_at_call 35; refine NU.out.mono ?_; rintro e w1 ⟨rfl, rfl⟩)
        | (go_at_call 36; refine WH.out.mono ?_; rintro e w1 ⟨rfl, hb⟩; have B1 := Lib.hid (HB.out.trans (hb.mono HB.out.size)); have hcz := (B1.out.cell (p := ⟨b, o, none⟩) HBL.out).trans HZ.out; clear hb)
        | (go_at_call 39; refine (VO.out _ B1.out).mono ?_; rintro e w2 ⟨rfl, rfl⟩))
          go_ret
          exact ⟨rfl, B1.out⟩
        · have hn5 : ¬ (65000 : Int) < (n : Int) := by omega
          obtain rfl : r = 0 := by
            rcases HR.out with h | h | h | h
            · exact absurd ⟨by omega, hg⟩ h.1
            · omega
            · omega
            · exact h.2.2.2
          clear HR
          subst hg
          go_enter Tryd.func25, Tryd.ntmps25
          go_wp2_with (first
        | (go_at_call 35; refine NU.out.mono ?_; rintro e w1 ⟨rfl, rfl⟩)
        | (go_at_call 36; refine WH.out.mono ?_; rintro e w1 ⟨rfl, hb⟩; have B1 := Lib.hid (HB.out.trans (hb.mono HB.out.size)); have hcz := (B1.out.cell (p := ⟨b, o, none⟩) HBL.out).trans HZ.out; clear hb)
        | (go_at_call 39; refine (VO.out _ B1.out).mono ?_; rintro e w2 ⟨rfl, rfl⟩))
          go_ret
          exact ⟨rfl, B1.out⟩
    · obtain rfl : r = 2 := by
        rcases HR.out with h | h | h | h
        · exact h.2
        · exact absurd h.1.2 hg
        · exact absurd h.1.2 hg
        · exact absurd h.1.2 hg
      clear HR
      go_enter Tryd.func25, Tryd.ntmps25
      go_wp2_with (first
        | (go_at_call 35; refine NU.out.mono ?_; rintro e w1 ⟨rfl, rfl⟩)
        | (go_at_call 36; refine WH.out.mono ?_; rintro e w1 ⟨rfl, hb⟩; have B1 := Lib.hid (HB.out.trans (hb.mono HB.out.size)); have hcz := (B1.out.cell (p := ⟨b, o, none⟩) HBL.out).trans HZ.out; clear hb)
        | (go_at_call 39; refine (VO.out _ B1.out).mono ?_; rintro e w2 ⟨rfl, rfl⟩))
      go_ret
      exact ⟨rfl, B1.out⟩
  · obtain rfl : r = 2 := by
      rcases HR.out with h | h | h | h
      · exact h.2
      · omega
      · omega
      · omega
    clear HR
    go_enter Tryd.func25, Tryd.ntmps25
    go_wp2_with (first
        | (go_at_call 35; refine NU.out.mono ?_; rintro e w1 ⟨rfl, rfl⟩)
        | (go_at_call 36; refine WH.out.mono ?_; rintro e w1 ⟨rfl, hb⟩; have B1 := Lib.hid (HB.out.trans (hb.mono HB.out.size)); have hcz := (B1.out.cell (p := ⟨b, o, none⟩) HBL.out).trans HZ.out; clear hb)
        | (go_at_call 39; refine (VO.out _ B1.out).mono ?_; rintro e w2 ⟨rfl, rfl⟩))
    go_ret
    exact ⟨rfl, B1.out⟩
set_option maxHeartbeats 4000000 in
theorem sealable_2 (K I M : ByteArray) (hK : K.size = 16) (hI : I.size = 12) (hM : M.size = 16) (N : Int) (h0 : 0 ≤ N) (h1 : N ≤ 4611686018427387903) (a a2 : Option Addr) (m c n c2 : Nat) (f : Nat → BitVec 8) (hm : m ≤ 4000) (hc : m ≤ c) (w : World) (hsm : 2 + 1 ≤ m) (h : BytesIn w a m f) (r : Int)
    (hr : (¬ formOk f m 2 N ∧ r = 2) ∨ (formOk f m 2 N ∧ n + 2 < 4 ∧ r = 3) ∨ (formOk f m 2 N ∧ ¬ n + 2 < 4 ∧ 65000 < n ∧ r = 5) ∨ (formOk f m 2 N ∧ ¬ n + 2 < 4 ∧ ¬ 65000 < n ∧ r = 0)) :
    Calls Tryd.prog 25 #[.agg (kysC K I M), .slice a m c, .int .i64 2, .int .i64 N, .slice a2 n c2] w fun e w' => e = .returned (.int .i64 r) ∧ Below w.heap.size w w' := by
  have R0 : (w.alloc (.cells (kysC K I M) 34)).heap[w.heap.size]? = some (.cells (kysC K I M) 34 (0, 0)) := heap_alloc_last _ _
  have hb1 : Below w.heap.size w (w.alloc (.cells (kysC K I M) 34)) := (Below.refl w.heap.size w).alloc (Nat.le_refl _) _
  have HB := Lib.hid hb1
  have NU := Lib.hid (by have := numbers_any N (w.alloc (.cells (kysC K I M) 34)); rw [decide_eq_true (show 0 ≤ N ∧ N ≤ 4611686018427387903 from ⟨h0, h1⟩)] at this; exact this)
  have WH := Lib.hid (by have := whole_any K I M 16 12 16 hK hI hM (w.alloc (.cells (kysC K I M) 34)); rw [decide_eq_true (show 16 = 16 ∧ 12 = 12 ∧ 16 = 16 from ⟨rfl, rfl, rfl⟩)] at this; exact this)
  obtain ⟨c0, c1, c2⟩ := kys_cells R0
  obtain ⟨_, h0' | ⟨b, o, rfl, hb, hcell⟩⟩ := id h
  · omega
  have HBL := Lib.hid hb
  have VO := Lib.hid (fun (w' : World) (hbl : Below w.heap.size w w') => valueOf_any (some ⟨b, o + (m - 2), none⟩) 2 (c - (m - 2)) (fun i => f (m - 2 + i)) (by omega) w' (by
    refine ⟨by unfold maxLen; omega, .inr ⟨b, o + (m - 2), rfl, Nat.lt_of_lt_of_le hb hbl.size, fun i hi => ?_⟩⟩
    rw [hbl.cell (p := ⟨b, o + (m - 2) + i, none⟩) hb, show o + (m - 2) + i = o + (m - 2 + i) by omega]
    exact hcell (m - 2 + i) (by omega)))
  have HR := Lib.hid hr
  have hlow : bits .and .i64 N 65535 = N % 65536 := by
    have h := low_of N h0 h1 16 (by omega)
    rw [show (2 : Int) ^ 16 - 1 = 65535 from by decide, show (2 : Int) ^ 16 = 65536 from by decide] at h
    exact h
  have hf0 := and3 (f 0)
  have hcz := hcell 0 (by omega)
  rw [Nat.add_zero] at hcz
  have HZ := Lib.hid hcz
  clear hcz
  have hmI : ¬ (m : Int) < 3 := by omega
  have s1 := fun w' => run_from_at w' b o (m - 2) m c ((m : Int) - 2) (by omega) (by omega) hc
  rw [show m - (m - 2) = 2 by omega] at s1
  unfold formOk at HR
  rw [show (2 : Int) ^ (8 * 2) = 65536 from by decide] at HR
  have hml : (((f 0).toNat % 4 : Nat) : Int) ≤ 3 := by omega
  generalize hq : (f 0).toNat % 4 = q at *
  clear hr h hcell R0 hb1 hK hI hM
  unfold kysC at *
  generalize numG (fun i => f (m - 2 + i)) 2 = G at *
  generalize hZ : N % 65536 = Z at *
  clear hZ
  by_cases hfm : (q : Int) = 1
  · have hbq : q = 1 := by omega
    subst hbq
    by_cases hg : (G : Int) = Z
    · by_cases hn : n + 2 < 4
      · have hnI : (n : Int) < 2 := by omega
        obtain rfl : r = 3 := by
          rcases HR.out with h | h | h | h
          · exact absurd ⟨by omega, hg⟩ h.1
          · exact h.2.2
          · omega
          · omega
        clear HR
        subst hg
        go_enter Tryd.func25, Tryd.ntmps25
        go_wp2_with (first
        | (go_at_call 35; refine NU.out.mono ?_; rintro e w1 ⟨rfl, rfl⟩)
        | (go_at_call 36; refine WH.out.mono ?_; rintro e w1 ⟨rfl, hb⟩; have B1 := Lib.hid (HB.out.trans (hb.mono HB.out.size)); have hcz := (B1.out.cell (p := ⟨b, o, none⟩) HBL.out).trans HZ.out; clear hb)
        | (go_at_call 39; refine (VO.out _ B1.out).mono ?_; rintro e w2 ⟨rfl, rfl⟩))
        go_ret
        exact ⟨rfl, B1.out⟩
      · have hnI : ¬ (n : Int) < 2 := by omega
        by_cases hb5 : 65000 < n
        · have hn5 : (65000 : Int) < (n : Int) := by omega
          obtain rfl : r = 5 := by
            rcases HR.out with h | h | h | h
            · exact absurd ⟨by omega, hg⟩ h.1
            · omega
            · exact h.2.2.2
            · omega
          clear HR
          subst hg
          go_enter Tryd.func25, Tryd.ntmps25
          go_wp2_with (first
        | (go_at_call 35; refine NU.out.mono ?_; rintro e w1 ⟨rfl, rfl⟩)
        | (go_at_call 36; refine WH.out.mono ?_; rintro e w1 ⟨rfl, hb⟩; have B1 := Lib.hid (HB.out.trans (hb.mono HB.out.size)); have hcz := (B1.out.cell (p := ⟨b, o, none⟩) HBL.out).trans HZ.out; clear hb)
        | (go_at_call 39; refine (VO.out _ B1.out).mono ?_; rintro e w2 ⟨rfl, rfl⟩))
          go_ret
          exact ⟨rfl, B1.out⟩
        · have hn5 : ¬ (65000 : Int) < (n : Int) := by omega
          obtain rfl : r = 0 := by
            rcases HR.out with h | h | h | h
            · exact absurd ⟨by omega, hg⟩ h.1
            · omega
            · omega
            · exact h.2.2.2
          clear HR
          subst hg
          go_enter Tryd.func25, Tryd.ntmps25
          go_wp2_with (first
        | (go_at_call 35; refine NU.out.mono ?_; rintro e w1 ⟨rfl, rfl⟩)
        | (go_at_call 36; refine WH.out.mono ?_; rintro e w1 ⟨rfl, hb⟩; have B1 := Lib.hid (HB.out.trans (hb.mono HB.out.size)); have hcz := (B1.out.cell (p := ⟨b, o, none⟩) HBL.out).trans HZ.out; clear hb)
        | (go_at_call 39; refine (VO.out _ B1.out).mono ?_; rintro e w2 ⟨rfl, rfl⟩))
          go_ret
          exact ⟨rfl, B1.out⟩
    · obtain rfl : r = 2 := by
        rcases HR.out with h | h | h | h
        · exact h.2
        · exact absurd h.1.2 hg
        · exact absurd h.1.2 hg
        · exact absurd h.1.2 hg
      clear HR
      go_enter Tryd.func25, Tryd.ntmps25
      go_wp2_with (first
        | (go_at_call 35; refine NU.out.mono ?_; rintro e w1 ⟨rfl, rfl⟩)
        | (go_at_call 36; refine WH.out.mono ?_; rintro e w1 ⟨rfl, hb⟩; have B1 := Lib.hid (HB.out.trans (hb.mono HB.out.size)); have hcz := (B1.out.cell (p := ⟨b, o, none⟩) HBL.out).trans HZ.out; clear hb)
        | (go_at_call 39; refine (VO.out _ B1.out).mono ?_; rintro e w2 ⟨rfl, rfl⟩))
      go_ret
      exact ⟨rfl, B1.out⟩
  · obtain rfl : r = 2 := by
      rcases HR.out with h | h | h | h
      · exact h.2
      · omega
      · omega
      · omega
    clear HR
    go_enter Tryd.func25, Tryd.ntmps25
    go_wp2_with (first
        | (go_at_call 35; refine NU.out.mono ?_; rintro e w1 ⟨rfl, rfl⟩)
        | (go_at_call 36; refine WH.out.mono ?_; rintro e w1 ⟨rfl, hb⟩; have B1 := Lib.hid (HB.out.trans (hb.mono HB.out.size)); have hcz := (B1.out.cell (p := ⟨b, o, none⟩) HBL.out).trans HZ.out; clear hb)
        | (go_at_call 39; refine (VO.out _ B1.out).mono ?_; rintro e w2 ⟨rfl, rfl⟩))
    go_ret
    exact ⟨rfl, B1.out⟩
set_option maxHeartbeats 4000000 in
theorem sealable_3 (K I M : ByteArray) (hK : K.size = 16) (hI : I.size = 12) (hM : M.size = 16) (N : Int) (h0 : 0 ≤ N) (h1 : N ≤ 4611686018427387903) (a a2 : Option Addr) (m c n c2 : Nat) (f : Nat → BitVec 8) (hm : m ≤ 4000) (hc : m ≤ c) (w : World) (hsm : 3 + 1 ≤ m) (h : BytesIn w a m f) (r : Int)
    (hr : (¬ formOk f m 3 N ∧ r = 2) ∨ (formOk f m 3 N ∧ n + 3 < 4 ∧ r = 3) ∨ (formOk f m 3 N ∧ ¬ n + 3 < 4 ∧ 65000 < n ∧ r = 5) ∨ (formOk f m 3 N ∧ ¬ n + 3 < 4 ∧ ¬ 65000 < n ∧ r = 0)) :
    Calls Tryd.prog 25 #[.agg (kysC K I M), .slice a m c, .int .i64 3, .int .i64 N, .slice a2 n c2] w fun e w' => e = .returned (.int .i64 r) ∧ Below w.heap.size w w' := by
  have R0 : (w.alloc (.cells (kysC K I M) 34)).heap[w.heap.size]? = some (.cells (kysC K I M) 34 (0, 0)) := heap_alloc_last _ _
  have hb1 : Below w.heap.size w (w.alloc (.cells (kysC K I M) 34)) := (Below.refl w.heap.size w).alloc (Nat.le_refl _) _
  have HB := Lib.hid hb1
  have NU := Lib.hid (by have := numbers_any N (w.alloc (.cells (kysC K I M) 34)); rw [decide_eq_true (show 0 ≤ N ∧ N ≤ 4611686018427387903 from ⟨h0, h1⟩)] at this; exact this)
  have WH := Lib.hid (by have := whole_any K I M 16 12 16 hK hI hM (w.alloc (.cells (kysC K I M) 34)); rw [decide_eq_true (show 16 = 16 ∧ 12 = 12 ∧ 16 = 16 from ⟨rfl, rfl, rfl⟩)] at this; exact this)
  obtain ⟨c0, c1, c2⟩ := kys_cells R0
  obtain ⟨_, h0' | ⟨b, o, rfl, hb, hcell⟩⟩ := id h
  · omega
  have HBL := Lib.hid hb
  have VO := Lib.hid (fun (w' : World) (hbl : Below w.heap.size w w') => valueOf_any (some ⟨b, o + (m - 3), none⟩) 3 (c - (m - 3)) (fun i => f (m - 3 + i)) (by omega) w' (by
    refine ⟨by unfold maxLen; omega, .inr ⟨b, o + (m - 3), rfl, Nat.lt_of_lt_of_le hb hbl.size, fun i hi => ?_⟩⟩
    rw [hbl.cell (p := ⟨b, o + (m - 3) + i, none⟩) hb, show o + (m - 3) + i = o + (m - 3 + i) by omega]
    exact hcell (m - 3 + i) (by omega)))
  have HR := Lib.hid hr
  have hlow : bits .and .i64 N 16777215 = N % 16777216 := by
    have h := low_of N h0 h1 24 (by omega)
    rw [show (2 : Int) ^ 24 - 1 = 16777215 from by decide, show (2 : Int) ^ 24 = 16777216 from by decide] at h
    exact h
  have hf0 := and3 (f 0)
  have hcz := hcell 0 (by omega)
  rw [Nat.add_zero] at hcz
  have HZ := Lib.hid hcz
  clear hcz
  have hmI : ¬ (m : Int) < 4 := by omega
  have s1 := fun w' => run_from_at w' b o (m - 3) m c ((m : Int) - 3) (by omega) (by omega) hc
  rw [show m - (m - 3) = 3 by omega] at s1
  unfold formOk at HR
  rw [show (2 : Int) ^ (8 * 3) = 16777216 from by decide] at HR
  have hml : (((f 0).toNat % 4 : Nat) : Int) ≤ 3 := by omega
  generalize hq : (f 0).toNat % 4 = q at *
  clear hr h hcell R0 hb1 hK hI hM
  unfold kysC at *
  generalize numG (fun i => f (m - 3 + i)) 3 = G at *
  generalize hZ : N % 16777216 = Z at *
  clear hZ
  by_cases hfm : (q : Int) = 2
  · have hbq : q = 2 := by omega
    subst hbq
    by_cases hg : (G : Int) = Z
    · by_cases hn : n + 3 < 4
      · have hnI : (n : Int) < 1 := by omega
        obtain rfl : r = 3 := by
          rcases HR.out with h | h | h | h
          · exact absurd ⟨by omega, hg⟩ h.1
          · exact h.2.2
          · omega
          · omega
        clear HR
        subst hg
        go_enter Tryd.func25, Tryd.ntmps25
        go_wp2_with (first
        | (go_at_call 35; refine NU.out.mono ?_; rintro e w1 ⟨rfl, rfl⟩)
        | (go_at_call 36; refine WH.out.mono ?_; rintro e w1 ⟨rfl, hb⟩; have B1 := Lib.hid (HB.out.trans (hb.mono HB.out.size)); have hcz := (B1.out.cell (p := ⟨b, o, none⟩) HBL.out).trans HZ.out; clear hb)
        | (go_at_call 39; refine (VO.out _ B1.out).mono ?_; rintro e w2 ⟨rfl, rfl⟩))
        go_ret
        exact ⟨rfl, B1.out⟩
      · have hnI : ¬ (n : Int) < 1 := by omega
        by_cases hb5 : 65000 < n
        · have hn5 : (65000 : Int) < (n : Int) := by omega
          obtain rfl : r = 5 := by
            rcases HR.out with h | h | h | h
            · exact absurd ⟨by omega, hg⟩ h.1
            · omega
            · exact h.2.2.2
            · omega
          clear HR
          subst hg
          go_enter Tryd.func25, Tryd.ntmps25
          go_wp2_with (first
        | (go_at_call 35; refine NU.out.mono ?_; rintro e w1 ⟨rfl, rfl⟩)
        | (go_at_call 36; refine WH.out.mono ?_; rintro e w1 ⟨rfl, hb⟩; have B1 := Lib.hid (HB.out.trans (hb.mono HB.out.size)); have hcz := (B1.out.cell (p := ⟨b, o, none⟩) HBL.out).trans HZ.out; clear hb)
        | (go_at_call 39; refine (VO.out _ B1.out).mono ?_; rintro e w2 ⟨rfl, rfl⟩))
          go_ret
          exact ⟨rfl, B1.out⟩
        · have hn5 : ¬ (65000 : Int) < (n : Int) := by omega
          obtain rfl : r = 0 := by
            rcases HR.out with h | h | h | h
            · exact absurd ⟨by omega, hg⟩ h.1
            · omega
            · omega
            · exact h.2.2.2
          clear HR
          subst hg
          go_enter Tryd.func25, Tryd.ntmps25
          go_wp2_with (first
        | (go_at_call 35; refine NU.out.mono ?_; rintro e w1 ⟨rfl, rfl⟩)
        | (go_at_call 36; refine WH.out.mono ?_; rintro e w1 ⟨rfl, hb⟩; have B1 := Lib.hid (HB.out.trans (hb.mono HB.out.size)); have hcz := (B1.out.cell (p := ⟨b, o, none⟩) HBL.out).trans HZ.out; clear hb)
        | (go_at_call 39; refine (VO.out _ B1.out).mono ?_; rintro e w2 ⟨rfl, rfl⟩))
          go_ret
          exact ⟨rfl, B1.out⟩
    · obtain rfl : r = 2 := by
        rcases HR.out with h | h | h | h
        · exact h.2
        · exact absurd h.1.2 hg
        · exact absurd h.1.2 hg
        · exact absurd h.1.2 hg
      clear HR
      go_enter Tryd.func25, Tryd.ntmps25
      go_wp2_with (first
        | (go_at_call 35; refine NU.out.mono ?_; rintro e w1 ⟨rfl, rfl⟩)
        | (go_at_call 36; refine WH.out.mono ?_; rintro e w1 ⟨rfl, hb⟩; have B1 := Lib.hid (HB.out.trans (hb.mono HB.out.size)); have hcz := (B1.out.cell (p := ⟨b, o, none⟩) HBL.out).trans HZ.out; clear hb)
        | (go_at_call 39; refine (VO.out _ B1.out).mono ?_; rintro e w2 ⟨rfl, rfl⟩))
      go_ret
      exact ⟨rfl, B1.out⟩
  · obtain rfl : r = 2 := by
      rcases HR.out with h | h | h | h
      · exact h.2
      · omega
      · omega
      · omega
    clear HR
    go_enter Tryd.func25, Tryd.ntmps25
    go_wp2_with (first
        | (go_at_call 35; refine NU.out.mono ?_; rintro e w1 ⟨rfl, rfl⟩)
        | (go_at_call 36; refine WH.out.mono ?_; rintro e w1 ⟨rfl, hb⟩; have B1 := Lib.hid (HB.out.trans (hb.mono HB.out.size)); have hcz := (B1.out.cell (p := ⟨b, o, none⟩) HBL.out).trans HZ.out; clear hb)
        | (go_at_call 39; refine (VO.out _ B1.out).mono ?_; rintro e w2 ⟨rfl, rfl⟩))
    go_ret
    exact ⟨rfl, B1.out⟩
set_option maxHeartbeats 4000000 in
theorem sealable_4 (K I M : ByteArray) (hK : K.size = 16) (hI : I.size = 12) (hM : M.size = 16) (N : Int) (h0 : 0 ≤ N) (h1 : N ≤ 4611686018427387903) (a a2 : Option Addr) (m c n c2 : Nat) (f : Nat → BitVec 8) (hm : m ≤ 4000) (hc : m ≤ c) (w : World) (hsm : 4 + 1 ≤ m) (h : BytesIn w a m f) (r : Int)
    (hr : (¬ formOk f m 4 N ∧ r = 2) ∨ (formOk f m 4 N ∧ n + 4 < 4 ∧ r = 3) ∨ (formOk f m 4 N ∧ ¬ n + 4 < 4 ∧ 65000 < n ∧ r = 5) ∨ (formOk f m 4 N ∧ ¬ n + 4 < 4 ∧ ¬ 65000 < n ∧ r = 0)) :
    Calls Tryd.prog 25 #[.agg (kysC K I M), .slice a m c, .int .i64 4, .int .i64 N, .slice a2 n c2] w fun e w' => e = .returned (.int .i64 r) ∧ Below w.heap.size w w' := by
  have R0 : (w.alloc (.cells (kysC K I M) 34)).heap[w.heap.size]? = some (.cells (kysC K I M) 34 (0, 0)) := heap_alloc_last _ _
  have hb1 : Below w.heap.size w (w.alloc (.cells (kysC K I M) 34)) := (Below.refl w.heap.size w).alloc (Nat.le_refl _) _
  have HB := Lib.hid hb1
  have NU := Lib.hid (by have := numbers_any N (w.alloc (.cells (kysC K I M) 34)); rw [decide_eq_true (show 0 ≤ N ∧ N ≤ 4611686018427387903 from ⟨h0, h1⟩)] at this; exact this)
  have WH := Lib.hid (by have := whole_any K I M 16 12 16 hK hI hM (w.alloc (.cells (kysC K I M) 34)); rw [decide_eq_true (show 16 = 16 ∧ 12 = 12 ∧ 16 = 16 from ⟨rfl, rfl, rfl⟩)] at this; exact this)
  obtain ⟨c0, c1, c2⟩ := kys_cells R0
  obtain ⟨_, h0' | ⟨b, o, rfl, hb, hcell⟩⟩ := id h
  · omega
  have HBL := Lib.hid hb
  have VO := Lib.hid (fun (w' : World) (hbl : Below w.heap.size w w') => valueOf_any (some ⟨b, o + (m - 4), none⟩) 4 (c - (m - 4)) (fun i => f (m - 4 + i)) (by omega) w' (by
    refine ⟨by unfold maxLen; omega, .inr ⟨b, o + (m - 4), rfl, Nat.lt_of_lt_of_le hb hbl.size, fun i hi => ?_⟩⟩
    rw [hbl.cell (p := ⟨b, o + (m - 4) + i, none⟩) hb, show o + (m - 4) + i = o + (m - 4 + i) by omega]
    exact hcell (m - 4 + i) (by omega)))
  have HR := Lib.hid hr
  have hlow : bits .and .i64 N 4294967295 = N % 4294967296 := by
    have h := low_of N h0 h1 32 (by omega)
    rw [show (2 : Int) ^ 32 - 1 = 4294967295 from by decide, show (2 : Int) ^ 32 = 4294967296 from by decide] at h
    exact h
  have hf0 := and3 (f 0)
  have hcz := hcell 0 (by omega)
  rw [Nat.add_zero] at hcz
  have HZ := Lib.hid hcz
  clear hcz
  have hmI : ¬ (m : Int) < 5 := by omega
  have s1 := fun w' => run_from_at w' b o (m - 4) m c ((m : Int) - 4) (by omega) (by omega) hc
  rw [show m - (m - 4) = 4 by omega] at s1
  unfold formOk at HR
  rw [show (2 : Int) ^ (8 * 4) = 4294967296 from by decide] at HR
  have hml : (((f 0).toNat % 4 : Nat) : Int) ≤ 3 := by omega
  generalize hq : (f 0).toNat % 4 = q at *
  clear hr h hcell R0 hb1 hK hI hM
  unfold kysC at *
  generalize numG (fun i => f (m - 4 + i)) 4 = G at *
  generalize hZ : N % 4294967296 = Z at *
  clear hZ
  by_cases hfm : (q : Int) = 3
  · have hbq : q = 3 := by omega
    subst hbq
    by_cases hg : (G : Int) = Z
    · by_cases hn : n + 4 < 4
      · omega
      · have hnI : ¬ (n : Int) < 0 := by omega
        by_cases hb5 : 65000 < n
        · have hn5 : (65000 : Int) < (n : Int) := by omega
          obtain rfl : r = 5 := by
            rcases HR.out with h | h | h | h
            · exact absurd ⟨by omega, hg⟩ h.1
            · omega
            · exact h.2.2.2
            · omega
          clear HR
          subst hg
          go_enter Tryd.func25, Tryd.ntmps25
          go_wp2_with (first
        | (go_at_call 35; refine NU.out.mono ?_; rintro e w1 ⟨rfl, rfl⟩)
        | (go_at_call 36; refine WH.out.mono ?_; rintro e w1 ⟨rfl, hb⟩; have B1 := Lib.hid (HB.out.trans (hb.mono HB.out.size)); have hcz := (B1.out.cell (p := ⟨b, o, none⟩) HBL.out).trans HZ.out; clear hb)
        | (go_at_call 39; refine (VO.out _ B1.out).mono ?_; rintro e w2 ⟨rfl, rfl⟩))
          go_ret
          exact ⟨rfl, B1.out⟩
        · have hn5 : ¬ (65000 : Int) < (n : Int) := by omega
          obtain rfl : r = 0 := by
            rcases HR.out with h | h | h | h
            · exact absurd ⟨by omega, hg⟩ h.1
            · omega
            · omega
            · exact h.2.2.2
          clear HR
          subst hg
          go_enter Tryd.func25, Tryd.ntmps25
          go_wp2_with (first
        | (go_at_call 35; refine NU.out.mono ?_; rintro e w1 ⟨rfl, rfl⟩)
        | (go_at_call 36; refine WH.out.mono ?_; rintro e w1 ⟨rfl, hb⟩; have B1 := Lib.hid (HB.out.trans (hb.mono HB.out.size)); have hcz := (B1.out.cell (p := ⟨b, o, none⟩) HBL.out).trans HZ.out; clear hb)
        | (go_at_call 39; refine (VO.out _ B1.out).mono ?_; rintro e w2 ⟨rfl, rfl⟩))
          go_ret
          exact ⟨rfl, B1.out⟩
    · obtain rfl : r = 2 := by
        rcases HR.out with h | h | h | h
        · exact h.2
        · exact absurd h.1.2 hg
        · exact absurd h.1.2 hg
        · exact absurd h.1.2 hg
      clear HR
      go_enter Tryd.func25, Tryd.ntmps25
      go_wp2_with (first
        | (go_at_call 35; refine NU.out.mono ?_; rintro e w1 ⟨rfl, rfl⟩)
        | (go_at_call 36; refine WH.out.mono ?_; rintro e w1 ⟨rfl, hb⟩; have B1 := Lib.hid (HB.out.trans (hb.mono HB.out.size)); have hcz := (B1.out.cell (p := ⟨b, o, none⟩) HBL.out).trans HZ.out; clear hb)
        | (go_at_call 39; refine (VO.out _ B1.out).mono ?_; rintro e w2 ⟨rfl, rfl⟩))
      go_ret
      exact ⟨rfl, B1.out⟩
  · obtain rfl : r = 2 := by
      rcases HR.out with h | h | h | h
      · exact h.2
      · omega
      · omega
      · omega
    clear HR
    go_enter Tryd.func25, Tryd.ntmps25
    go_wp2_with (first
        | (go_at_call 35; refine NU.out.mono ?_; rintro e w1 ⟨rfl, rfl⟩)
        | (go_at_call 36; refine WH.out.mono ?_; rintro e w1 ⟨rfl, hb⟩; have B1 := Lib.hid (HB.out.trans (hb.mono HB.out.size)); have hcz := (B1.out.cell (p := ⟨b, o, none⟩) HBL.out).trans HZ.out; clear hb)
        | (go_at_call 39; refine (VO.out _ B1.out).mono ?_; rintro e w2 ⟨rfl, rfl⟩))
    go_ret
    exact ⟨rfl, B1.out⟩
theorem sealable_ok (K I M : ByteArray) (hK : K.size = 16) (hI : I.size = 12) (hM : M.size = 16) (N : Int) (h0 : 0 ≤ N) (h1 : N ≤ 4611686018427387903) (s : Nat) (hs1 : 1 ≤ s) (hs4 : s ≤ 4) (a a2 : Option Addr) (m c n c2 : Nat) (f : Nat → BitVec 8) (hm : m ≤ 4000) (hc : m ≤ c) (w : World) (hsm : s + 1 ≤ m) (h : BytesIn w a m f) (r : Int)
    (hr : (¬ formOk f m s N ∧ r = 2) ∨ (formOk f m s N ∧ n + s < 4 ∧ r = 3) ∨ (formOk f m s N ∧ ¬ n + s < 4 ∧ 65000 < n ∧ r = 5) ∨ (formOk f m s N ∧ ¬ n + s < 4 ∧ ¬ 65000 < n ∧ r = 0)) :
    Calls Tryd.prog 25 #[.agg (kysC K I M), .slice a m c, .int .i64 (s : Int), .int .i64 N, .slice a2 n c2] w fun e w' => e = .returned (.int .i64 r) ∧ Below w.heap.size w w' := by
  rcases (by omega : s = 1 ∨ s = 2 ∨ s = 3 ∨ s = 4) with rfl | rfl | rfl | rfl
  · exact sealable_1 K I M hK hI hM N h0 h1 a a2 m c n c2 f hm hc w hsm h r hr
  · exact sealable_2 K I M hK hI hM N h0 h1 a a2 m c n c2 f hm hc w hsm h r hr
  · exact sealable_3 K I M hK hI hM N h0 h1 a a2 m c n c2 f hm hc w hsm h r hr
  · exact sealable_4 K I M hK hI hM N h0 h1 a a2 m c n c2 f hm hc w hsm h r hr
end Go.Proofs.YtjbpjoondmcnlabDoor
