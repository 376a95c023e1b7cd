/-
  THE DOCUMENT's Sum (rhyneref01) IS sha's.
-/
import Derived.Test.YtebhhonmpoeliaaDoorShaR
import Derived.Test.YtebhhonmpoeliaaDoorShaN
import Derived.Test.YtebhhonmpoeliaaDoorOwnZ
import Derived.Laws.IdiomStrings
import Derived.Deep.RegionHeld
namespace Go.Proofs.YtebhhonmpoeliaaDoor
open Go Go.RowKit Go.BigFrame
set_option linter.unusedSimpArgs false
set_option linter.unusedVariables false
/-- '[]byte(text)'. -/
theorem conv_ownZ (f : Nat → BitVec 8) (n : Nat) (hn : n ≤ 1000000) (w : World) (B : Nat) (hB : B ≤ w.heap.size) : ∃ v w', (convert 9 40 (.string (strOf f n))).run Tryd.prog w = .ok v w' ∧ OwnZ B v n f w' ∧ Below w.heap.size w w' := by
  have hr := run_bytes_of_string (P := Tryd.prog) w 9 40 5 (strOf f n) (by kernel_rfl) (by kernel_rfl) (by kernel_rfl)
  rw [strOf_size] at hr
  refine ⟨_, _, hr, ⟨.inr ⟨w.heap.size, _, _, _, rfl, hB, heap_alloc_new w.drew _, .inr (Nat.le_refl _), grownCap_ge _ _ _ _, ?_, ?_, ?_⟩, by simp; exact Nat.le_succ_of_le hB⟩, (Below.refl _ _).drew.alloc (by exact Nat.le_refl _) _⟩
  · have := grownCap_le_maxLen w n 0 5 (by unfold maxLen; omega)
    exact this
  · have hge := grownCap_ge w n 0 5
    unfold bytesRow
    rw [Array.size_append, Array.size_map, Array.size_replicate, strOf_size, show (strOf f n).data.size = n from strOf_size f n]
    omega
  · intro j hj
    unfold bytesRow
    rw [Array.getElem?_append_left (by rw [Array.size_map, show (strOf f n).data.size = n from strOf_size f n]; exact hj), Array.getElem?_map]
    have hd : (strOf f n).data[j]? = some (UInt8.ofBitVec (f j)) := by
      show (strL f n).toArray[j]? = _
      simp [strL, hj]
    rw [hd, n8_u8]
    rfl
theorem src_byte (w : World) (x : BitVec 8) : Src Tryd.prog 1 40 (.slice (some ⟨w.heap.size, 0, none⟩) 1 1) 1 (firsts (fun _ => x) 1) (w.alloc (.cells #[.int .u8 (n8 x)] 5)) := src_one_new w x
theorem run_mid (w : World) (g lo hi n c : Nat) (h1 : lo ≤ hi) (h2 : hi ≤ n) (h3 : n ≤ c) (h4 : lo < hi) : (Instr.sliceAt 40 (.slice (some ⟨g, 0, none⟩) n c) (some (.int .i64 (lo : Int))) (some (.int .i64 (hi : Int))) none).run Tryd.prog w = .ok (.slice (some ⟨g, lo, none⟩) (hi - lo) (c - lo)) w := by
  have hu : Tryd.prog.underlying 40 = some (.slice (Tryd.prog.elem 40)) := by kernel_rfl
  have e0 : (0 : Int) ≤ (lo : Int) := by omega
  have e1 : (lo : Int) ≤ (hi : Int) := by omega
  have e2 : (hi : Int) ≤ (c : Int) := by omega
  have e3 : ¬ c = lo := by omega
  have e4 : ((⟨g, 0, none⟩ : Addr).add lo) = ⟨g, 0 + lo, none⟩ := by unfold Addr.add; split <;> simp_all
  rw [run_sliceAt_slice (t := 40) (h := hu), run_slice_any (t := 40) (ht := hu)]
  simp [Instr.sliceBounds, go_sem, e0, e1, e2, e3, e4]
  intro h
  omega
theorem step_append_z {ops : Array Oper} {o : Oper} {a : Act} {w : World} {K : Act → World → Prop} {Q : Exit → Act → World → Prop} {E : Prop} (hw : Region.wanted o (yielded ops a.tmps) = true) (s x : Operand) (tx : TypeId)
    (ho : o.op = .call { callee := .builtin .append, args := #[s, x], argTypes := #[40, tx] })
    {B n m : Nat} {v xv : Value} {f g : Nat → BitVec 8} (hs : a.eval s = v) (hx : a.eval x = xv) (h : OwnZ B v n f w) (hsrc : Src Tryd.prog 1 tx xv m (firsts g m) w) (hnm : n + m ≤ 200000000000000)
    (hk : ∀ v' w', OwnZ B v' (n + m) (joinb f n g) w' → Below B w w' → K (a.put o.dst v') w') : if Region.wanted o (yielded ops a.tmps) = true then Oper.wp Tryd.prog o a w K Q else E := by
  rw [if_pos hw]
  obtain ⟨v', w', hr, h2, h3⟩ := run_append_z o.type h hsrc hnm
  unfold Oper.wp execOp
  simp only [ho, resolve, invoke, builtin, Sem.run_bind, Sem.run_pure, Result.andThen_ok, List.map_toArray, List.map_cons, List.map_nil, hs, hx, hr]
  exact hk v' w' h2 h3
theorem load_row8 {w : World} {g : Nat} {p : Nat → BitVec 32} (h : w.heap[g]? = some (.cells (wordsA p 8) 57 (0, 0))) : (Instr.loadAt 57 (.pointer (some ⟨g, 0, none⟩))).run Tryd.prog w = .ok (.agg (wordsA p 8)) w := by
  simp only [Instr.loadAt, Instr.sureAddr, Sem.run_bind, Sem.run_pure, Result.andThen_ok]
  exact run_loadVar_row _ _ 57 _ _ (0, 0) _ h Tryd.underlying57 rfl (by rw [wordsA_size]; kernel_rfl)
theorem wpList_append_z {ops : Array Oper} {rest : List Oper} {o : Oper} {a : Act} {w : World} {Q : Exit → Act → World → Prop} (hw : Region.wanted o (yielded ops a.tmps) = true) (s x : Operand) (tx : TypeId)
    (ho : o.op = .call { callee := .builtin .append, args := #[s, x], argTypes := #[40, tx] })
    {B n m : Nat} {v xv : Value} {f g : Nat → BitVec 8} (hs : a.eval s = v) (hx : a.eval x = xv) (h : OwnZ B v n f w) (hsrc : Src Tryd.prog 1 tx xv m (firsts g m) w) (hnm : n + m ≤ 200000000000000)
    (hk : ∀ v' w', OwnZ B v' (n + m) (joinb f n g) w' → Below B w w' → wpList Tryd.prog ops Q rest (a.put o.dst v') w') : wpList Tryd.prog ops Q (o :: rest) a w :=
  wpList_step fun K hK => by
    rw [if_pos hw]
    obtain ⟨v', w', hr, h2, h3⟩ := run_append_z o.type h hsrc hnm
    unfold Oper.wp execOp
    simp only [ho, resolve, invoke, builtin, Sem.run_bind, Sem.run_pure, Result.andThen_ok, List.map_toArray, List.map_cons, List.map_nil, hs, hx, hr]
    exact hK _ _ (hk v' w' h2 h3)
/-- One byte more of the padded text. -/
theorem padded_snoc (f : Nat → BitVec 8) (n N : Nat) (x : BitVec 8) (h : padded f n N = x) (i : Nat) (hi : i < N + 1) : joinb (padded f n) N (fun _ => x) i = padded f n i := by
  unfold joinb
  by_cases h1 : i < N
  · rw [if_pos h1]
  · rw [if_neg h1, show i = N by omega, h]
theorem padded_text (f : Nat → BitVec 8) {n i : Nat} (h : i < n) : padded f n i = f i := by unfold padded; rw [if_pos h]
theorem padded_one (f : Nat → BitVec 8) (n : Nat) : padded f n n = 128#8 := by unfold padded; rw [if_neg (by omega), if_pos rfl]
theorem padded_nought (f : Nat → BitVec 8) {n i : Nat} (h1 : n < i) (h2 : i < 64 * ((n + 8) / 64 + 1) - 8) : padded f n i = 0#8 := by unfold padded; rw [if_neg (by omega), if_neg (by omega), if_neg (by omega)]
theorem padded_len (f : Nat → BitVec 8) {n j : Nat} (h : j < 8) : padded f n (64 * ((n + 8) / 64 + 1) - 8 + j) = BitVec.ofNat 8 (n * 8 / 2 ^ (8 * (7 - j))) := by
  unfold padded
  rw [if_neg (by omega), if_neg (by omega), if_pos (by omega), show 64 * ((n + 8) / 64 + 1) - 1 - (64 * ((n + 8) / 64 + 1) - 8 + j) = 7 - j by omega, Nat.pow_mul]
theorem len_byte (n k : Nat) : (n : Int) * 8 / 2 ^ k % 256 = n8 (BitVec.ofNat 8 (n * 8 / 2 ^ k)) := by
  rw [n8_nat, BitVec.toNat_ofNat]
  simp
/-- Four bytes of a word. -/
def four (x : BitVec 32) (j : Nat) : BitVec 8 := if j = 0 then (x >>> 24).setWidth 8 else if j = 1 then (x >>> 16).setWidth 8 else if j = 2 then (x >>> 8).setWidth 8 else x.setWidth 8
theorem state_four (V : W8) (i k : Nat) (hk : k < 4 * i + 4) : joinb (stateB V) (4 * i) (four (V.get i)) k = stateB V k := by
  unfold joinb
  by_cases h : k < 4 * i
  · rw [if_pos h]
  · rw [if_neg h]
    unfold stateB
    rw [show k / 4 = i by omega]
    rcases (by omega : k = 4 * i ∨ k = 4 * i + 1 ∨ k = 4 * i + 2 ∨ k = 4 * i + 3) with e | e | e | e
    · rw [show k - 4 * i = 0 by omega, show k % 4 = 0 by omega]; rfl
    · rw [show k - 4 * i = 1 by omega, show k % 4 = 1 by omega]; rfl
    · rw [show k - 4 * i = 2 by omega, show k % 4 = 2 by omega]; rfl
    · rw [show k - 4 * i = 3 by omega, show k % 4 = 3 by omega]
      show (V.get i).setWidth 8 = (V.get i >>> 0).setWidth 8
      rw [BitVec.ushiftRight_zero]
theorem src_four (w : World) (x : BitVec 32) : Src Tryd.prog 1 40 (.slice (some ⟨w.heap.size, 0, none⟩) 4 4) 4 (firsts (four x) 4) (w.alloc (.cells #[.int .u8 (n8 ((x >>> 24).setWidth 8)), .int .u8 (n8 ((x >>> 16).setWidth 8)), .int .u8 (n8 ((x >>> 8).setWidth 8)), .int .u8 (n8 (x.setWidth 8))] 5)) :=
  src_bytes (four x) w.heap.size 0 4 4 _ (fun i hi => by
    have hrow := heap_alloc_last w (.cells #[.int .u8 (n8 ((x >>> 24).setWidth 8)), .int .u8 (n8 ((x >>> 16).setWidth 8)), .int .u8 (n8 ((x >>> 8).setWidth 8)), .int .u8 (n8 (x.setWidth 8))] 5)
    rw [Nat.zero_add, cell_of_row _ _ _ _ _ _ hrow]
    rcases (by omega : i = 0 ∨ i = 1 ∨ i = 2 ∨ i = 3) with rfl | rfl | rfl | rfl <;> rfl)
set_option maxHeartbeats 16000000 in
set_option maxRecDepth 100000 in
theorem refSum_any (f : Nat → BitVec 8) (n : Nat) (hn : n ≤ 100000) (w : World) : Calls Tryd.prog 21 #[.string (strOf f n)] w fun e w' => e = .returned (.string (strOf (sumS f n) 32)) ∧ Below w.heap.size w w' := by
  have hlen := strOf_size f n
  have HL := Lib.hid hlen
  have e128 : n8 128#8 = 128 := by unfold n8; rfl
  have e0 : n8 0#8 = 0 := by unfold n8; rfl
  have E128 := Lib.hid e128
  have E0 := Lib.hid e0
  clear e128 e0 hlen
  obtain ⟨Tt, hT⟩ : ∃ Tt, (n + 8) / 64 + 1 = Tt := ⟨_, rfl⟩
  have HT := Lib.hid hT
  have hT1 : n + 9 ≤ 64 * Tt := by omega
  have hT2 : 64 * Tt ≤ n + 72 := by omega
  have h88 : 64 * Tt - 8 + 8 = 64 * Tt := by omega
  have hpos : 0 < 64 * Tt := by omega
  have H88 := Lib.hid h88
  have HPOS := Lib.hid hpos
  clear h88 hpos
  clear hT
  go_enter Tryd.func21, Tryd.ntmps21
  go_upto_region 2 with fail
  obtain ⟨wa, hwa⟩ : ∃ wa, w.alloc (.cells #[.int .u32 1779033703, .int .u32 3144134277, .int .u32 1013904242, .int .u32 2773480762, .int .u32 1359893119, .int .u32 2600822924, .int .u32 528734635, .int .u32 1541459225] 57) = wa := ⟨_, rfl⟩
  have hq0 : wa.heap[w.heap.size]? = some (.cells (wordsA startW.get 8) 57 (0, 0)) := by rw [← hwa, startW_cells]; exact heap_alloc_last _ _
  have hb0 : Below w.heap.size w wa := by rw [← hwa]; exact (Below.refl _ _).alloc (Nat.le_refl _) _
  have hz0 : wa.heap.size = w.heap.size + 1 := by rw [← hwa]; exact alloc_size _ _
  simp only [hwa]
  clear hwa
  obtain ⟨q, hq⟩ : ∃ q, w.heap.size = q := ⟨_, rfl⟩
  rw [hq] at hq0 hb0 hz0
  simp only [hq]
  have HQ := Lib.hid hq
  clear hq
  obtain ⟨v2, w2, hcv, o2, b2⟩ := conv_ownZ f n (by omega) wa (q + 1) (by omega)
  have Q2 := Lib.hid ((b2.block q (by omega)).trans hq0)
  have B2 := Lib.hid (hb0.trans (b2.mono (by omega)))
  have O2 := Lib.hid o2
  clear o2 b2 hq0 hb0 hz0
  go_upto_region 3 with fail
  clear hcv
  -- the one
  obtain ⟨w3, hw3⟩ : ∃ w3, w2.alloc (.cells #[.int .u8 128] 5) = w3 := ⟨_, rfl⟩
  have hal : Below w2.heap.size w2 w3 := by rw [← hw3]; exact (Below.refl _ _).alloc (Nat.le_refl _) _
  have sr := src_byte w2 128#8
  rw [E128.out, hw3] at sr
  have SR := Lib.hid sr
  have O3 := Lib.hid (O2.out.later hal)
  have Q3 := Lib.hid ((hal.block q (lt_of_heap Q2.out)).trans Q2.out)
  have B3 := Lib.hid (B2.out.trans (hal.mono (by have := lt_of_heap Q2.out; omega)))
  have HW3 := Lib.hid hw3
  clear hal sr hw3
  go_upto_region 4 with (first
    | (at_builtin; simp only [HW3.out]; refine wpList_append_z (o := ⟨some 15, _, _, _, _, _⟩) (by rfl) _ _ 40 rfl rfl rfl O3.out SR.out (by omega) ?_; intro v4 w4 o4 b4)
    | fail)
  have O4 := Lib.hid (show OwnZ (q + 1) v4 (n + 1) (padded f n) w4 from o4.congr (fun i hi => by
    unfold joinb
    by_cases h : i < n
    · rw [if_pos h, padded_text f h]
    · rw [if_neg h, show i = n by omega, padded_one]))
  have Q4 := Lib.hid ((b4.block q (by omega)).trans Q3.out)
  have B4 := Lib.hid (B3.out.trans (b4.mono (by omega)))
  clear o4 b4 Q3 B3 O3 SR HW3 Q2 B2 O2
  -- noughts
  go_loopw [4] (fun s4 wr => ∃ N : Nat, n + 1 ≤ N ∧ N ≤ 64 * Tt - 8 ∧ OwnZ (q + 1) s4 N (padded f n) wr ∧ wr.heap[q]? = some (.cells (wordsA startW.get 8) 57 (0, 0)) ∧ Below q w wr)
    (fun s4 _ => 64 * Tt - 8 - (match s4 with | .slice _ l _ => l | _ => 0))
  case atStart => exact ⟨n + 1, Nat.le_refl _, by omega, O4.out, Q4.out, B4.out⟩
  case round =>
    clear O4 Q4 B4
    obtain ⟨N, hN1, hN2, o, hqr, bel⟩ := hrel
    have O5 := Lib.hid o
    obtain ⟨a5, c5, rfl, hc5, hm5, bi5, hg5⟩ := o.asBytes
    have Q5 := Lib.hid hqr
    have B5 := Lib.hid bel
    clear o hqr bel hc5 hm5 bi5 hg5
    by_cases hlt : N < 64 * Tt - 8
    · have hms : 64 * Tt - 8 - (N + 1) < 64 * Tt - 8 - N := by omega
      have HMS := Lib.hid hms
      clear hms
      have hne : ¬ (N : Int) % 64 = 56 := by omega
      obtain ⟨w6, hw6⟩ : ∃ w6, wr.alloc (.cells #[.int .u8 0] 5) = w6 := ⟨_, rfl⟩
      have hal : Below wr.heap.size wr w6 := by rw [← hw6]; exact (Below.refl _ _).alloc (Nat.le_refl _) _
      have sr := src_byte wr 0#8
      rw [E0.out, hw6] at sr
      have SR := Lib.hid sr
      have O6 := Lib.hid (O5.out.later hal)
      have Q6 := Lib.hid ((hal.block q (lt_of_heap Q5.out)).trans Q5.out)
      have B6 := Lib.hid (B5.out.trans (hal.mono (by have := lt_of_heap Q5.out; omega)))
      have HW6 := Lib.hid hw6
      clear hal sr hw6
      go_wp2_with (first
        | (at_builtin; simp only [HW6.out]; refine wpList_append_z (o := ⟨some 22, _, _, _, _, _⟩) (by rfl) _ _ 40 rfl rfl rfl O6.out SR.out (by omega) ?_; intro v7 w7 o7 b7; have O7 := Lib.hid o7; have B7 := Lib.hid b7; clear o7 b7)
        | fail)
      obtain ⟨a7, c7, rfl, _⟩ := O7.out.asBytes
      go_roundw
      case rel =>
        refine ⟨N + 1, by omega, by omega, O7.out.congr (fun i hi => padded_snoc f n N 0#8 (padded_nought f (by omega) (by have := HT.out; omega)) i hi), (B7.out.block q (by omega)).trans Q6.out, B6.out.trans (B7.out.mono (by omega))⟩
      case measure => exact HMS.out
    · obtain rfl : N = 64 * Tt - 8 := by omega
      have heq : ((64 * Tt - 8 : Nat) : Int) % 64 = 56 := by omega
      have hsz : ((strOf f n).size : Int) = (n : Int) := by rw [HL.out]
      go_wp2_with fail
      have O8 := O5
      have Q8 := Q5
      have B8 := B5
      clear O5 Q5 B5 hlt hN1 hN2 heq hsz
      go_loopw [4, 6] (fun s4 s6 wr => ∃ j : Nat, j ≤ 8 ∧ s6 = .int .i64 (7 - (j : Int)) ∧ OwnZ (q + 1) s4 (64 * Tt - 8 + j) (padded f n) wr ∧ wr.heap[q]? = some (.cells (wordsA startW.get 8) 57 (0, 0)) ∧ Below q w wr)
        (fun _ s6 _ => (intOf s6 + 1).toNat)
      case atStart => exact ⟨0, by omega, rfl, O8.out, Q8.out, B8.out⟩
      case round =>
        clear O8 Q8 B8
        obtain ⟨j, hj, rfl, o, hqr, bel⟩ := hrel
        have O9 := Lib.hid o
        obtain ⟨a9, c9, rfl, hc9, hm9, bi9, hg9⟩ := o.asBytes
        have Q9 := Lib.hid hqr
        have B9 := Lib.hid bel
        clear o hqr bel
        by_cases hlt : j < 8
        · have hj0 : 0 ≤ 7 - (j : Int) := by omega
          have hj1 : 0 ≤ 8 * (7 - (j : Int)) := by omega
          have hj2 : (8 * (7 - (j : Int))).toNat = 8 * (7 - j) := by omega
          clear hc9 hm9 bi9 hg9
          obtain ⟨x, hx⟩ : ∃ x, padded f n (64 * Tt - 8 + j) = x := ⟨_, rfl⟩
          have hsb : (n : Int) * 8 / 2 ^ (8 * (7 - j)) % 256 = n8 x := by
            rw [len_byte, ← hx]
            have h := padded_len f (n := n) hlt
            rw [HT.out] at h
            rw [h]
          have HX := Lib.hid hx
          clear hx
          obtain ⟨w10, hw10⟩ : ∃ w10, wr.alloc (.cells #[.int .u8 (n8 x)] 5) = w10 := ⟨_, rfl⟩
          have hal : Below wr.heap.size wr w10 := by rw [← hw10]; exact (Below.refl _ _).alloc (Nat.le_refl _) _
          have sr := src_byte wr x
          rw [hw10] at sr
          have SR := Lib.hid sr
          have O10 := Lib.hid (O9.out.later hal)
          have Q10 := Lib.hid ((hal.block q (lt_of_heap Q9.out)).trans Q9.out)
          have B10 := Lib.hid (B9.out.trans (hal.mono (by have := lt_of_heap Q9.out; omega)))
          have HW10 := Lib.hid hw10
          clear hal sr hw10
          go_wp2_with (first
            | (at_builtin; simp only [HW10.out]; refine wpList_append_z (o := ⟨some 37, _, _, _, _, _⟩) (by rfl) _ _ 40 rfl rfl rfl O10.out SR.out (by omega) ?_; intro v7 w7 o7 b7; have O7 := Lib.hid o7; have B7 := Lib.hid b7; clear o7 b7)
            | fail)
          have o11 : OwnZ (q + 1) v7 (64 * Tt - 8 + (j + 1)) (padded f n) w7 := O7.out.congr (fun i hi => padded_snoc f n (64 * Tt - 8 + j) x HX.out i hi)
          have O11 := Lib.hid o11
          clear o11
          have hms : (7 - (j : Int) - 1 + 1).toNat < (7 - (j : Int) + 1).toNat := by omega
          have HMS := Lib.hid hms
          clear hms
          go_roundw
          case rel =>
            exact ⟨j + 1, by omega, by go_num, O11.out, (B7.out.block q (by omega)).trans Q10.out, B10.out.trans (B7.out.mono (by omega))⟩
          case measure => exact HMS.out
        · obtain rfl : j = 8 := by omega
          have hj0 : ¬ 0 ≤ 7 - ((8 : Nat) : Int) := by omega
          have e88 := H88.out
          rw [e88] at hc9 bi9 hg9 O9
          simp only [e88]
          obtain ⟨g, rfl, hgq⟩ := hg9 HPOS.out
          have BI := Lib.hid bi9
          have HC9 := Lib.hid hc9
          have hgl : g < wr.heap.size := by
            have := bytesIn_lt bi9 (by omega) _ rfl
            exact this
          have Q12 := Q9
          have B12 := B9
          clear hlt hj Q9 B9 bi9 hg9 hc9 e88
          go_wp2_with fail
          go_loopw [7] (fun s7 wr => ∃ k : Nat, k ≤ Tt ∧ s7 = .int .i64 (64 * (k : Int)) ∧ BytesIn wr (some ⟨g, 0, none⟩) (64 * Tt) (padded f n) ∧ wr.heap[q]? = some (.cells (wordsA (W8.blocks kW startW (padded f n) k).get 8) 57 (0, 0)) ∧ Below q w wr)
            (fun s7 _ => 64 * Tt - (intOf s7).toNat)
          case atStart => exact ⟨0, by omega, rfl, BI.out, Q12.out, B12.out⟩
          case round =>
            clear Q12 B12 BI O9 hgl
            obtain ⟨k, hk, rfl, bi, hqr, bel⟩ := hrel
            obtain ⟨V, hV⟩ : ∃ V, W8.blocks kW startW (padded f n) k = V := ⟨_, rfl⟩
            rw [hV] at hqr
            have HV := Lib.hid hV
            have BI := Lib.hid bi
            have QR := Lib.hid hqr
            have BL := Lib.hid bel
            have hgl := bytesIn_lt bi (by omega) _ rfl
            have hgl' : g < wr.heap.size := hgl
            have hql := lt_of_heap hqr
            clear hV bi hqr bel hgl
            by_cases hlt : k < Tt
            · have hkI : 64 * (k : Int) < ((64 * Tt : Nat) : Int) := by omega
              have hsl : ∀ w' : World, (Instr.sliceAt 40 (.slice (some ⟨g, 0, none⟩) (64 * Tt) c9) (some (.int .i64 (64 * (k : Int)))) (some (.int .i64 (64 * (k : Int) + 64))) none).run Tryd.prog w' = .ok (.slice (some ⟨g, 64 * k, none⟩) 64 (c9 - 64 * k)) w' := fun w' => by
                have h := run_mid w' g (64 * k) (64 * k + 64) (64 * Tt) c9 (by omega) (by omega) HC9.out (by omega)
                rw [show ((64 * k : Nat) : Int) = 64 * (k : Int) by omega, show ((64 * k + 64 : Nat) : Int) = 64 * (k : Int) + 64 by omega, Nat.add_sub_cancel_left] at h
                exact h
              have CV := Lib.hid (fun (w' : World) (hb : Below wr.heap.size wr w') => (show (convert 40 9 (.slice (some ⟨g, 64 * k, none⟩) 64 (c9 - 64 * k))).run Tryd.prog w' = .ok (.string (strOf (fun i => padded f n (64 * k + i)) 64)) w' from
                conv_str (fun i => padded f n (64 * k + i)) g (64 * k) 64 _ w' (fun i hi => by
                  rw [hb.cell (p := ⟨g, 64 * k + i, none⟩) hgl']
                  rcases BI.out.2 with h0 | ⟨b', o', e, _, hc⟩
                  · omega
                  · injection e with e
                    injection e with e1 e2
                    subst e1
                    subst e2
                    have := hc (64 * k + i) (by omega)
                    rwa [Nat.zero_add] at this)))
              have BA := Lib.hid (fun w' => block_any V (fun i => padded f n (64 * k + i)) w')
              generalize strOf (fun i => padded f n (64 * k + i)) 64 = SB at *
              have HWR := Lib.hid (show IntKind.i64.wrap (64 * (k : Int) + 64) = 64 * (k : Int) + 64 by rw [IntKind.wrap_i64]; omega)
              go_upto_region 14 with fail
              refine region_class1 8 (fun w' => Below wr.heap.size wr w') mixedOrders (by kernel_rfl) (Below.refl _ _).drew rfl ?_
              refine wpQuiet_take (by rfl) (fun K hK => ⟨.agg (wordsA V.get 8), fun w2' hw2 => ?_, hK _ ?_⟩)
              · exact quietAt_run (quiet_load (load_row8 ((hw2.block q hql).trans QR.out)))
              clear hK K
              simp only [Act.put, List.setIfInBounds_toArray, List.set_cons_succ, List.set_cons_zero]
              refine wpQuiet_take (by rfl) (fun K hK => ⟨.slice (some ⟨g, 0, none⟩) (64 * Tt) c9, fun w2' hw2 => ?_, hK _ ?_⟩)
              · clear hw2; go_simp
              clear hK K
              simp only [Act.put, List.setIfInBounds_toArray, List.set_cons_succ, List.set_cons_zero]
              refine wpQuiet_take (by rfl) (fun K hK => ⟨.int .i64 (64 * (k : Int)), fun w2' hw2 => ?_, hK _ ?_⟩)
              · clear hw2; go_simp
              clear hK K
              simp only [Act.put, List.setIfInBounds_toArray, List.set_cons_succ, List.set_cons_zero]
              refine wpQuiet_take (by rfl) (fun K hK => ⟨.int .i64 (64 * (k : Int)), fun w2' hw2 => ?_, hK _ ?_⟩)
              · clear hw2; go_simp
              clear hK K
              simp only [Act.put, List.setIfInBounds_toArray, List.set_cons_succ, List.set_cons_zero]
              refine wpQuiet_take (by rfl) (fun K hK => ⟨.int .i64 (64 * (k : Int) + 64), fun w2' hw2 => ?_, hK _ ?_⟩)
              · have hw := HWR.out
                clear hw2; go_simp
              clear hK K
              simp only [Act.put, List.setIfInBounds_toArray, List.set_cons_succ, List.set_cons_zero]
              refine wpQuiet_take (by rfl) (fun K hK => ⟨.slice (some ⟨g, 64 * k, none⟩) 64 (c9 - 64 * k), fun w2' hw2 => ?_, hK _ ?_⟩)
              · clear hw2; go_simp
              clear hK K
              simp only [Act.put, List.setIfInBounds_toArray, List.set_cons_succ, List.set_cons_zero]
              refine wpQuiet_take (by rfl) (fun K hK => ⟨.string SB, fun w2' hw2 => ?_, hK _ ?_⟩)
              · have cv := CV.out w2' hw2
                clear hw2; go_simp
              clear hK K
              simp only [Act.put, List.setIfInBounds_toArray, List.set_cons_succ, List.set_cons_zero]
              refine wpQuiet_take (by rfl) (fun K hK => ⟨.agg (wordsA (V.turn kW (fun i => padded f n (64 * k + i))).get 8), fun w2' hw2 => ?_, hK _ ?_⟩)
              · go_simp
                go_at_call 28
                with_reducible refine (BA.out w2').mono ?_
                rintro e w4 ⟨rfl, hb4⟩
                exact ⟨rfl, hw2.trans (hb4.mono hw2.size)⟩
              clear hK K
              simp only [Act.put, List.setIfInBounds_toArray, List.set_cons_succ, List.set_cons_zero]
              refine wpQuiet_take0 ?_
              intro w3 hb3
              have Q3' := (hb3.block q hql).trans QR.out
              have BI3 := bytesIn_ext BI.out hb3
              have BL3 := BL.out.trans (hb3.mono (by omega))
              refine wpList_store_row (op := ⟨none, .store 57 (.tmp 3) (.tmp 51), _, _, _, _⟩) rfl 57 _ _ rfl q _ _ (wordsA (V.turn kW (fun i => padded f n (64 * k + i))).get 8) rfl rfl Q3' (by rw [wordsA_size, wordsA_size]) (by rw [wordsA_size]; kernel_rfl) (wordsA_one _ _) ?_
              intro w5 s5
              have BI5 := Lib.hid (bytesIn_chg BI3 s5.chg (fun _ y hy => by injection hy with hy; subst hy; show g ≠ q; omega))
              have BL5 := Lib.hid (BL3.trans (s5.below _ (Nat.le_refl _)))
              have Q5' := Lib.hid s5.row
              clear s5 Q3' BI3 BL3 hb3 CV BA
              simp only [Act.put, List.setIfInBounds_toArray, List.set_cons_succ, List.set_cons_zero]
              have hms : 64 * Tt - (64 * (k : Int) + 64).toNat < 64 * Tt - (64 * (k : Int)).toNat := by omega
              have HMS := Lib.hid hms
              clear hms
              go_wp2_with fail
              go_roundw
              case rel =>
                refine ⟨k + 1, by omega, by go_num, BI5.out, ?_, BL5.out⟩
                have h := Q5'.out
                rw [← HV.out] at h
                exact h
              case measure => exact HMS.out
            · obtain rfl : k = Tt := by omega
              have hkI : ¬ 64 * (k : Int) < ((64 * k : Nat) : Int) := by omega
              have hfin : stateB V = sumS f n := by
                rw [← HV.out, ← HT.out]; rfl
              have HF := Lib.hid hfin
              have Q20 := QR
              have B20 := BL
              clear hfin QR BL HV BI hkI hlt hk
              go_wp2_with fail
              go_loopw [8, 9] (fun s8 s9 wr => ∃ i : Nat, i ≤ 8 ∧ s9 = .int .i64 (i : Int) ∧ OwnZ (q + 1) s8 (4 * i) (stateB V) wr ∧ wr.heap[q]? = some (.cells (wordsA V.get 8) 57 (0, 0)) ∧ Below q w wr) (fun _ s9 _ => 8 - (intOf s9).toNat)
              case atStart => exact ⟨0, by omega, rfl, OwnZ.nil _ _ _ (by omega), Q20.out, B20.out⟩
              case round =>
                clear Q20 B20 hgl' hql
                obtain ⟨i, hi, rfl, o, hqr, bel⟩ := hrel
                have O20 := Lib.hid o
                obtain ⟨a20, c20, rfl, _⟩ := o.asBytes
                have QR := Lib.hid hqr
                have BL := Lib.hid bel
                have hql := lt_of_heap hqr
                clear o hqr bel
                by_cases hlt : i < 8
                · have hlI : (i : Int) < 8 := by omega
                  have KC : ∀ w' : World, Below wr.heap.size wr w' → w'.cell? ⟨q, i, none⟩ = some (.int .u32 (n32 (V.get i))) := fun w' hb => by
                    rw [cell_of_row _ _ _ _ _ _ ((hb.block q hql).trans QR.out)]; exact wordsA_get _ hlt
                  have KCH := Lib.hid KC
                  clear KC
                  go_upto_region 19 with fail
                  have HS := Lib.hid (KCH.out wr.drew (Below.refl _ _).drew)
                  refine wp_region_held_drew (S := fun w' => w'.cell? ⟨q, i, none⟩ = some (.int .u32 (n32 (V.get i)))) mixedOrders HS.out (fun hHeld => ?_)
                  clear hHeld
                  refine wpAnyH_take (i := 0) (oi := ⟨some 56, _, _, _, _, _⟩) (v := .slice a20 (4 * i) c20) rfl (by kernel_rfl) (by kernel_rfl) (by kernel_rfl) (fun _ _ _ h => h) (Or.inl ⟨by rfl, fun w' hSw => ?_⟩) HS.out ?_
                  · go_simp
                  simp only [Act.put, List.setIfInBounds_toArray, List.set_cons_succ, List.set_cons_zero]
                  refine wpAnyH_take (i := 1) (oi := ⟨some 57, _, _, _, _, _⟩) (v := .int .i64 (i : Int)) rfl (by kernel_rfl) (by kernel_rfl) (by kernel_rfl) (fun _ _ _ h => h) (Or.inl ⟨by rfl, fun w' hSw => ?_⟩) HS.out ?_
                  · go_simp
                  simp only [Act.put, List.setIfInBounds_toArray, List.set_cons_succ, List.set_cons_zero]
                  refine wpAnyH_take (i := 2) (oi := ⟨some 58, _, _, _, _, _⟩) (v := .pointer (some ⟨q, i, none⟩)) rfl (by kernel_rfl) (by kernel_rfl) (by kernel_rfl) (fun _ _ _ h => h) (Or.inl ⟨by rfl, fun w' hSw => ?_⟩) HS.out ?_
                  · go_simp
                  simp only [Act.put, List.setIfInBounds_toArray, List.set_cons_succ, List.set_cons_zero]
                  refine wpAnyH_take (i := 3) (oi := ⟨some 59, _, _, _, _, _⟩) (v := .int .u32 (n32 (V.get i))) rfl (by kernel_rfl) (by kernel_rfl) (by kernel_rfl) (fun _ _ _ h => h) (Or.inl ⟨by rfl, fun w' hSw => ?_⟩) HS.out ?_
                  · go_simp
                  simp only [Act.put, List.setIfInBounds_toArray, List.set_cons_succ, List.set_cons_zero]
                  refine wpAnyH_take (i := 4) (oi := ⟨some 60, _, _, _, _, _⟩) (v := .int .u32 (n32 (V.get i >>> 24))) rfl (by kernel_rfl) (by kernel_rfl) (by kernel_rfl) (fun _ _ _ h => h) (Or.inl ⟨by rfl, fun w' hSw => ?_⟩) HS.out ?_
                  · go_simp
                  simp only [Act.put, List.setIfInBounds_toArray, List.set_cons_succ, List.set_cons_zero]
                  refine wpAnyH_take (i := 5) (oi := ⟨some 61, _, _, _, _, _⟩) (v := .int .u8 (n8 ((V.get i >>> 24).setWidth 8))) rfl (by kernel_rfl) (by kernel_rfl) (by kernel_rfl) (fun _ _ _ h => h) (Or.inl ⟨by rfl, fun w' hSw => ?_⟩) HS.out ?_
                  · go_simp
                  simp only [Act.put, List.setIfInBounds_toArray, List.set_cons_succ, List.set_cons_zero]
                  refine wpAnyH_take (i := 6) (oi := ⟨some 62, _, _, _, _, _⟩) (v := .int .i64 (i : Int)) rfl (by kernel_rfl) (by kernel_rfl) (by kernel_rfl) (fun _ _ _ h => h) (Or.inl ⟨by rfl, fun w' hSw => ?_⟩) HS.out ?_
                  · go_simp
                  simp only [Act.put, List.setIfInBounds_toArray, List.set_cons_succ, List.set_cons_zero]
                  refine wpAnyH_take (i := 7) (oi := ⟨some 63, _, _, _, _, _⟩) (v := .pointer (some ⟨q, i, none⟩)) rfl (by kernel_rfl) (by kernel_rfl) (by kernel_rfl) (fun _ _ _ h => h) (Or.inl ⟨by rfl, fun w' hSw => ?_⟩) HS.out ?_
                  · go_simp
                  simp only [Act.put, List.setIfInBounds_toArray, List.set_cons_succ, List.set_cons_zero]
                  refine wpAnyH_take (i := 8) (oi := ⟨some 64, _, _, _, _, _⟩) (v := .int .u32 (n32 (V.get i))) rfl (by kernel_rfl) (by kernel_rfl) (by kernel_rfl) (fun _ _ _ h => h) (Or.inl ⟨by rfl, fun w' hSw => ?_⟩) HS.out ?_
                  · go_simp
                  simp only [Act.put, List.setIfInBounds_toArray, List.set_cons_succ, List.set_cons_zero]
                  refine wpAnyH_take (i := 9) (oi := ⟨some 65, _, _, _, _, _⟩) (v := .int .u32 (n32 (V.get i >>> 16))) rfl (by kernel_rfl) (by kernel_rfl) (by kernel_rfl) (fun _ _ _ h => h) (Or.inl ⟨by rfl, fun w' hSw => ?_⟩) HS.out ?_
                  · go_simp
                  simp only [Act.put, List.setIfInBounds_toArray, List.set_cons_succ, List.set_cons_zero]
                  refine wpAnyH_take (i := 10) (oi := ⟨some 66, _, _, _, _, _⟩) (v := .int .u8 (n8 ((V.get i >>> 16).setWidth 8))) rfl (by kernel_rfl) (by kernel_rfl) (by kernel_rfl) (fun _ _ _ h => h) (Or.inl ⟨by rfl, fun w' hSw => ?_⟩) HS.out ?_
                  · go_simp
                  simp only [Act.put, List.setIfInBounds_toArray, List.set_cons_succ, List.set_cons_zero]
                  refine wpAnyH_take (i := 11) (oi := ⟨some 67, _, _, _, _, _⟩) (v := .int .i64 (i : Int)) rfl (by kernel_rfl) (by kernel_rfl) (by kernel_rfl) (fun _ _ _ h => h) (Or.inl ⟨by rfl, fun w' hSw => ?_⟩) HS.out ?_
                  · go_simp
                  simp only [Act.put, List.setIfInBounds_toArray, List.set_cons_succ, List.set_cons_zero]
                  refine wpAnyH_take (i := 12) (oi := ⟨some 68, _, _, _, _, _⟩) (v := .pointer (some ⟨q, i, none⟩)) rfl (by kernel_rfl) (by kernel_rfl) (by kernel_rfl) (fun _ _ _ h => h) (Or.inl ⟨by rfl, fun w' hSw => ?_⟩) HS.out ?_
                  · go_simp
                  simp only [Act.put, List.setIfInBounds_toArray, List.set_cons_succ, List.set_cons_zero]
                  refine wpAnyH_take (i := 13) (oi := ⟨some 69, _, _, _, _, _⟩) (v := .int .u32 (n32 (V.get i))) rfl (by kernel_rfl) (by kernel_rfl) (by kernel_rfl) (fun _ _ _ h => h) (Or.inl ⟨by rfl, fun w' hSw => ?_⟩) HS.out ?_
                  · go_simp
                  simp only [Act.put, List.setIfInBounds_toArray, List.set_cons_succ, List.set_cons_zero]
                  refine wpAnyH_take (i := 14) (oi := ⟨some 70, _, _, _, _, _⟩) (v := .int .u32 (n32 (V.get i >>> 8))) rfl (by kernel_rfl) (by kernel_rfl) (by kernel_rfl) (fun _ _ _ h => h) (Or.inl ⟨by rfl, fun w' hSw => ?_⟩) HS.out ?_
                  · go_simp
                  simp only [Act.put, List.setIfInBounds_toArray, List.set_cons_succ, List.set_cons_zero]
                  refine wpAnyH_take (i := 15) (oi := ⟨some 71, _, _, _, _, _⟩) (v := .int .u8 (n8 ((V.get i >>> 8).setWidth 8))) rfl (by kernel_rfl) (by kernel_rfl) (by kernel_rfl) (fun _ _ _ h => h) (Or.inl ⟨by rfl, fun w' hSw => ?_⟩) HS.out ?_
                  · go_simp
                  simp only [Act.put, List.setIfInBounds_toArray, List.set_cons_succ, List.set_cons_zero]
                  refine wpAnyH_take (i := 16) (oi := ⟨some 72, _, _, _, _, _⟩) (v := .int .i64 (i : Int)) rfl (by kernel_rfl) (by kernel_rfl) (by kernel_rfl) (fun _ _ _ h => h) (Or.inl ⟨by rfl, fun w' hSw => ?_⟩) HS.out ?_
                  · go_simp
                  simp only [Act.put, List.setIfInBounds_toArray, List.set_cons_succ, List.set_cons_zero]
                  refine wpAnyH_take (i := 17) (oi := ⟨some 73, _, _, _, _, _⟩) (v := .pointer (some ⟨q, i, none⟩)) rfl (by kernel_rfl) (by kernel_rfl) (by kernel_rfl) (fun _ _ _ h => h) (Or.inl ⟨by rfl, fun w' hSw => ?_⟩) HS.out ?_
                  · go_simp
                  simp only [Act.put, List.setIfInBounds_toArray, List.set_cons_succ, List.set_cons_zero]
                  refine wpAnyH_take (i := 18) (oi := ⟨some 74, _, _, _, _, _⟩) (v := .int .u32 (n32 (V.get i))) rfl (by kernel_rfl) (by kernel_rfl) (by kernel_rfl) (fun _ _ _ h => h) (Or.inl ⟨by rfl, fun w' hSw => ?_⟩) HS.out ?_
                  · go_simp
                  simp only [Act.put, List.setIfInBounds_toArray, List.set_cons_succ, List.set_cons_zero]
                  refine wpAnyH_take (i := 19) (oi := ⟨some 75, _, _, _, _, _⟩) (v := .int .u8 (n8 ((V.get i).setWidth 8))) rfl (by kernel_rfl) (by kernel_rfl) (by kernel_rfl) (fun _ _ _ h => h) (Or.inl ⟨by rfl, fun w' hSw => ?_⟩) HS.out ?_
                  · go_simp
                  simp only [Act.put, List.setIfInBounds_toArray, List.set_cons_succ, List.set_cons_zero]
                  refine wpAnyH_ready (rs := [20]) (by kernel_rfl) (by simp) ?_
                  refine AllReadyH.cons (i := 20) rfl (fun K hK => ?_) AllReadyH.nil
                  rw [if_pos (by rfl)]
                  go_simp
                  obtain ⟨w22, hw22⟩ : ∃ w22, (wr.alloc (.cells #[.int .u8 (n8 ((V.get i >>> 24).setWidth 8)), .int .u8 (n8 ((V.get i >>> 16).setWidth 8)), .int .u8 (n8 ((V.get i >>> 8).setWidth 8)), .int .u8 (n8 ((V.get i).setWidth 8))] 5)).drew = w22 := ⟨_, rfl⟩
                  have hal : Below wr.heap.size wr w22 := by rw [← hw22]; exact ((Below.refl _ _).alloc (Nat.le_refl _) _).drew
                  have sr : Src Tryd.prog 1 40 (.slice (some ⟨wr.heap.size, 0, none⟩) 4 4) 4 (firsts (four (V.get i)) 4) w22 := by rw [← hw22]; exact src_four wr.drew (V.get i)
                  have SR := Lib.hid sr
                  have O22 := Lib.hid (O20.out.later hal)
                  have Q22 := Lib.hid ((hal.block q hql).trans QR.out)
                  have B22 := Lib.hid (BL.out.trans (hal.mono (by omega)))
                  have HS2 := Lib.hid (KCH.out w22 hal)
                  try simp only [hw22]
                  clear hal sr hw22 KCH HS
                  refine hK.out _ _ HS2.out (fun _ => ?_)
                  clear hK K
                  try simp only [Act.put, List.setIfInBounds_toArray, List.set_cons_succ, List.set_cons_zero]
                  refine wpAnyH_ready (rs := [21]) (by kernel_rfl) (by simp) ?_
                  refine AllReadyH.cons (i := 21) rfl (fun K hK => ?_) AllReadyH.nil
                  refine step_append_z (o := ⟨some 77, _, _, _, _, _⟩) (by rfl) _ _ 40 rfl rfl rfl O22.out SR.out (by omega) ?_
                  intro v7 w7 o7 b7
                  have O7 := Lib.hid o7
                  have B7 := Lib.hid b7
                  have HS := Lib.hid (show w7.cell? ⟨q, i, none⟩ = some (.int .u32 (n32 (V.get i))) by rw [b7.cell (p := ⟨q, i, none⟩) (by show q < q + 1; omega)]; exact HS2.out)
                  clear o7 b7 HS2
                  refine hK.out _ _ HS.out (fun _ => ?_)
                  clear hK K
                  try simp only [Act.put, List.setIfInBounds_toArray, List.set_cons_succ, List.set_cons_zero]
                  refine wpAnyH_take (i := 22) (oi := ⟨some 8, _, _, _, _, _⟩) (v := v7) rfl (by kernel_rfl) (by kernel_rfl) (by kernel_rfl) (fun _ _ _ h => h) (Or.inl ⟨by rfl, fun w' hSw => ?_⟩) HS.out ?_
                  · go_simp
                  simp only [Act.put, List.setIfInBounds_toArray, List.set_cons_succ, List.set_cons_zero]
                  refine wpAnyH_done (by kernel_rfl) ?_ _
                  go_wp2_with fail
                  have o23 : OwnZ (q + 1) v7 (4 * (i + 1)) (stateB V) w7 := O7.out.congr (fun k hk => state_four V i k hk)
                  have O23 := Lib.hid o23
                  clear o23
                  go_roundw
                  case rel =>
                    exact ⟨i + 1, by omega, by go_num, O23.out, (B7.out.block q (by omega)).trans Q22.out, B22.out.trans (B7.out.mono (by omega))⟩
                  case measure => (simp [intOf] <;> omega)
                · obtain rfl : i = 8 := by omega
                  have hlI : ¬ ((8 : Nat) : Int) < 8 := by omega
                  obtain ⟨a21, c21, e21, hc21, hm21, bi21, _⟩ := O20.out.asBytes
                  injection e21 with e1 e2 e3
                  rw [← e1] at bi21
                  have hcv := conv_in (stateB V) a20 32 c20 wr bi21
                  rw [HF.out] at hcv
                  have BL2 := BL
                  clear O20 bi21 hc21 hm21 e1 e2 e3
                  go_wp2_with fail
                  go_ret
                  exact ⟨rfl, by rw [HQ.out]; exact BL2.out⟩
end Go.Proofs.YtebhhonmpoeliaaDoor
