/-
  FRAMES: the law of a stream's lengths.
-/
import Derived.Test.YtcgbhcmgddgheabDoorFrV
import Derived.Test.YtcgbhcmgddgheabDoorFrW
namespace Go.Proofs.YtcgbhcmgddgheabDoor
open Go Go.RowKit Go.BigFrame
set_option linter.unusedSimpArgs false
set_option linter.unusedVariables false
set_option maxRecDepth 100000
theorem run_mid (w : World) (g lo hi n c : Nat) (h1 : lo ≤ hi) (h2 : hi ≤ n) (h3 : n ≤ c) (h4 : lo < hi) : (Instr.sliceAt 28 (.slice (some ⟨g, 0, none⟩) n c) (some (.int .i64 (lo : Int))) (some (.int .i64 (hi : Int))) none).run Tryd.prog w = .ok (.slice (some ⟨g, lo, none⟩) (hi - lo) (c - lo)) w := by
  have hu : Tryd.prog.underlying 28 = some (.slice (Tryd.prog.elem 28)) := by kernel_rfl
  have e0 : (0 : Int) ≤ (lo : Int) := by omega
  have e1 : (lo : Int) ≤ (hi : Int) := by omega
  have e2 : (hi : Int) ≤ (c : Int) := by omega
  have e3 : ¬ c = lo := by omega
  have e4 : ((⟨g, 0, none⟩ : Addr).add lo) = ⟨g, 0 + lo, none⟩ := by unfold Addr.add; split <;> simp_all
  rw [run_sliceAt_slice (t := 28) (h := hu), run_slice_any (t := 28) (ht := hu)]
  simp [Instr.sliceBounds, go_sem, e0, e1, e2, e3, e4]
  intro h
  omega
set_option maxHeartbeats 16000000 in
theorem lengths_law (K S O N C : Int) (F : Bool) (D X : ByteArray) (v : Value) (w : World) (hDm : D.size ≤ maxLen) (tab : Tab w) :
    Calls Tryd.prog 6 #[.agg (frC K S O N C F D X v)] w fun e w' => e = .returned (.bool true) ∧ Below w.heap.size w w' := by
  have TB := Lib.hid tab
  have hD63 : D.size ≤ 9223372036854775807 := by unfold maxLen at hDm; omega
  clear tab hDm
  unfold frC
  have bel := (Below.refl w.heap.size w).alloc (Nat.le_refl _) (.cells (frC K S O N C F D X v) 24)
  have r0 := heap_alloc_last w (.cells (frC K S O N C F D X v) 24)
  go_enter Tryd.func6, Tryd.ntmps6
  go_upto_region 1 with (fail)
  rw [show (w.alloc (.cells #[.int .i64 K, .int .i64 S, .int .i64 O, .int .i64 N, .int .i64 C, .bool F, .string D, .string X, v] 24)) = (w.alloc (.cells (frC K S O N C F D X v) 24)) from rfl]
  generalize w.alloc _ = w1 at *
  obtain ⟨c0, c1, c2, c3, c4, c5, c6, c7, c8⟩ := cells9 r0
  obtain ⟨d, hd⟩ : ∃ d : Nat, min D.size 2000 = d := ⟨_, rfl⟩
  have hd1 : d ≤ D.size := by omega
  have hd2 : d ≤ 2000 := by omega
  have hE : (if (2000 : Int) < (D.size : Int) then (2000 : Int) else (D.size : Int)) = (d : Int) := by split <;> omega
  clear hd
  have BEL := Lib.hid bel
  have R0 := Lib.hid r0
  have fz : ∀ j, w1.frozen? ⟨w.heap.size, j, none⟩ = false := fun j => frozen_of_row _ _ _ _ _ r0
  clear bel r0
  obtain ⟨E, hEE⟩ : ∃ E, D.extract 0 d = E := ⟨_, rfl⟩
  have hz : E.size = d := by rw [← hEE, ByteArray.size_extract]; omega
  go_region
  have RS := rowSet_store w1 w.heap.size 24 (frC K S O N C F D X v) (frC 8 S O 0 0 F E ⟨#[]⟩ (.slice none 0 0)) R0.out rfl
  try simp only [hEE]
  rw [show (((((((((w1.setCell ⟨w.heap.size, 0, none⟩ (.int .i64 8)).setCell ⟨w.heap.size, 1, none⟩ (.int .i64 S)).setCell ⟨w.heap.size, 2, none⟩ (.int .i64 O)).setCell ⟨w.heap.size, 3, none⟩ (.int .i64 0)).setCell ⟨w.heap.size, 4, none⟩ (.int .i64 0)).setCell ⟨w.heap.size, 5, none⟩ (.bool F)).setCell ⟨w.heap.size, 6, none⟩ (.string E)).setCell ⟨w.heap.size, 7, none⟩ (.string ⟨#[]⟩)).setCell ⟨w.heap.size, 8, none⟩ (.slice none 0 0)) = w1.setCells w.heap.size 0 (frC 8 S O 0 0 F E ⟨#[]⟩ (.slice none 0 0)).toList from rfl]
  generalize w1.setCells _ _ _ = w2 at *
  obtain ⟨w3, hw3⟩ : ∃ w3, w2.drew = w3 := ⟨_, rfl⟩
  have bel3 : Below w.heap.size w w3 := by rw [← hw3]; exact (BEL.out.trans (RS.below _ (Nat.le_refl _))).drew
  have r3 : w3.heap[w.heap.size]? = some (.cells (frC 8 S O 0 0 F E ⟨#[]⟩ (.slice none 0 0)) 24 (0, 0)) := by rw [← hw3]; exact RS.row
  rw [hw3]
  have BEL3 := Lib.hid bel3
  have R3 := Lib.hid r3
  have HZ := Lib.hid hz
  have hZ63 : E.size ≤ maxLen := by rw [hz]; unfold maxLen; omega
  have T3 := Lib.hid (TB.out.later (bel3))
  clear hw3 bel3 r3 RS hEE c0 c1 c2 c3 c4 c5 c6 c7 c8 fz R0 BEL hE hd1
  obtain ⟨c0, c1, c2, c3, c4, c5, c6, c7, c8⟩ := cells9 R3.out
  have TO := Lib.hid (fun (w' : World) => to_nil 8 S O 0 0 F E ⟨#[]⟩ none 0 w')
  have PU := Lib.hid (fun (w' : World) (t : Tab w') => (show Calls Tryd.prog 8 #[.agg (frC 8 S O 0 0 F E ⟨#[]⟩ (.slice none 0 0))] w' (PutPost ⟨8, S, O, 0, 0, F, E, ⟨#[]⟩, []⟩ w') from put_any ⟨8, S, O, 0, 0, F, E, ⟨#[]⟩, []⟩ (.slice none 0 0) w' (SpansIn.none _) hZ63 (Nat.zero_le _) (by show -9223372036854775808 ≤ (8 : Int); omega) (by show (8 : Int) ≤ 9223372036854775807; omega) t))
  have PS := Lib.hid (put_stream S O F E (by rw [hz]; omega))
  clear hZ63
  go_wp2_with (first
    | (refine wpList_load_row (o := ⟨some 25, .load 24 _, _, _, _, _⟩) rfl 24 _ rfl w.heap.size rfl _ _ (0, 0) _ R3.out (Tryd.underlying24) rfl (by kernel_rfl) ?_)
    | fail)
  refine (TO.out _).mono ?_
  rintro e w4 ⟨rfl, b4⟩
  have BEL4 := Lib.hid (BEL3.out.trans (b4.mono BEL3.out.size))
  have R4 := Lib.hid ((b4.block _ (lt_row R3.out)).trans R3.out)
  have T4 := Lib.hid (T3.out.later (b4))
  clear b4 R3 BEL3 T3 c0 c1 c2 c3 c4 c5 c6 c7 c8
  go_wp2_with fail
  refine (PU.out w4 T4.out).mono ?_
  rintro e w5 hp5
  have FM := Lib.hid (fun (w' : World) (t : Tab w') => framed_any w' t)
  unfold PutPost at hp5
  rw [PS.out] at hp5
  obtain ⟨hp5, b5⟩ := hp5
  have BEL5 := Lib.hid (BEL4.out.trans (b5.mono BEL4.out.size))
  have R5 := Lib.hid ((b5.block _ (lt_row R4.out)).trans R4.out)
  have T5 := Lib.hid (T4.out.later (b5))
  have b5s := b5.size
  have hb4 := BEL4.out.size
  clear b5 R4 BEL4 T4 TO PU PS
  by_cases hc : okS S O E
  rotate_left
  · rw [if_neg hc] at hp5
    dsimp only at hp5
    subst hp5
    clear hc
    go_wp2_with fail
    refine (FM.out w5 T5.out).mono ?_
    rintro e w6 ⟨rfl, b6⟩
    have T6 := Lib.hid (T5.out.later (b6))
    go_wp2_with fail
    refine (FM.out w6 T6.out).mono ?_
    rintro e w7 ⟨rfl, b7⟩
    have BEL7 := Lib.hid (BEL5.out.trans ((b6.trans (b7.mono b6.size)).mono BEL5.out.size))
    clear b6 b7
    go_wp2_with fail
    go_ret
    exact ⟨rfl, BEL7.out⟩
  rw [if_pos hc] at hp5
  dsimp only at hp5
  obtain ⟨bv, rfl, own5⟩ := hp5
  obtain ⟨m, hmm⟩ : ∃ m, (headS S O).size = m := ⟨_, rfl⟩
  obtain ⟨q, hqq⟩ : ∃ q, (numT (E.size : Int)).size = q := ⟨_, rfl⟩
  obtain ⟨fs, hfs⟩ : ∃ fs, firstS O F = fs := ⟨_, rfl⟩
  have hz := HZ.out
  have hm16 := headS_size S O
  have hm1 : 1 ≤ m := by rw [← hmm]; unfold headS; split; · exact (numT_size S).1
                         · rw [size_append]; have := (numT_size S).1; omega
  rw [hmm] at hm16
  have hqv : q = if 64 ≤ d then 2 else 1 := by rw [← hqq, hz]; exact numT_len d hd2
  have hf1 : 10 ≤ fs ∧ fs ≤ 15 := by rw [← hfs]; unfold firstS; split <;> split <;> omega
  obtain ⟨n5, f5, o5, e5⟩ := own5
  rw [hfs] at e5
  obtain ⟨L, hL⟩ : ∃ L, 1 + (m + (q + d)) = L := ⟨_, rfl⟩
  have hn5 : n5 = L := by
    have h1 := congrArg ByteArray.size e5
    rw [size_append, size_append, size_append, strOf_size, hmm, hqq, hz, show (byteT fs).size = 1 from strOf_size _ _] at h1
    omega
  subst hn5
  have sg : Sg f5 0 (byteT fs ++ (headS S O ++ (numT (E.size : Int) ++ E))) := fun i hi => by
    rw [e5] at hi ⊢
    rw [strOf_size] at hi
    rw [Nat.zero_add, bx_of _ _ _ hi]
  have h50 : f5 0 = BitVec.ofNat 8 fs := byteT_at sg.left
  have sgh : Sg f5 1 (headS S O) := Sg.shift sg.right.left (by rw [show (byteT fs).size = 1 from strOf_size _ _])
  have tmid : strOf (fun i => f5 (1 + i)) m = headS S O := Sg.text sgh hmm
  have hb0 : n8 (f5 0) = (fs : Int) := by rw [h50, n8_nat, BitVec.toNat_ofNat]; omega
  obtain ⟨g, cap, rfl, hLc, hcm, bi⟩ := o5.bytesIn (by omega)
  have cell0 : w5.cell? ⟨g, 0, none⟩ = some (.int .u8 (fs : Int)) := by
    rcases bi.2 with h0 | ⟨b, o, ea, hlt, hcell⟩
    · omega
    · injection ea with ea; injection ea with ea1 ea2; subst ea1; subst ea2
      have := hcell 0 (by omega)
      rw [hb0] at this
      exact this
  obtain ⟨k, hk⟩ : ∃ k, fs - 2 = k := ⟨_, rfl⟩
  have hki : (fs : Int) - 2 = (k : Int) := by omega
  have hk13 : k ≤ 13 := by omega
  have CE0 := Lib.hid cell0
  have BI := Lib.hid bi
  have HK := Lib.hid hk
  have HFS := Lib.hid hfs
  have TM := Lib.hid tmid
  have HMM := Lib.hid hmm
  have hL63 : n5 ≤ 9223372036854775807 := by unfold maxLen at hcm; omega
  have HC := Lib.hid hc
  have hcap63 : cap ≤ 9223372036854775807 := by unfold maxLen at hcm; omega
  have hgl : g < w5.heap.size := by
    rcases bi.2 with h0 | ⟨b, o, ea, hlt, hcell⟩
    · omega
    · injection ea with ea; injection ea with ea1 ea2; subst ea1; exact hlt
  have HGL := Lib.hid hgl
  clear o5 e5 sg sgh h50 tmid hb0 bi cell0 hk hfs hmm hqq hc hcm hgl
  obtain ⟨x, hx⟩ : ∃ x, 1 + m + q = x := ⟨_, rfl⟩
  obtain ⟨at_, hat⟩ : ∃ a, 1 + m = a := ⟨_, rfl⟩
  have hi1 : (n5 : Int) - (d : Int) = (x : Int) := by omega
  have hL0 : (0 : Int) < (n5 : Int) := by omega
  have kmid : ∀ w : World, _ := fun w : World => run_mid w g 1 at_ n5 cap (by omega) (by omega) hLc (by omega)
  rw [show at_ - 1 = m by omega, show ((1 : Nat) : Int) = 1 from rfl] at kmid
  go_wp2_with fail
  refine (FM.out w5 T5.out).mono ?_
  rintro e w6 ⟨rfl, b6⟩
  obtain ⟨c0, c1, c2, c3, c4, c5, c6, c7, c8⟩ := cells9 ((b6.block _ (lt_row R5.out)).trans R5.out)
  have R6 := Lib.hid ((b6.block _ (lt_row R5.out)).trans R5.out)
  have BEL6 := Lib.hid (BEL5.out.trans (b6.mono BEL5.out.size))
  have T6 := Lib.hid (T5.out.later b6)
  have CE6 := Lib.hid ((b6.cell (p := ⟨g, 0, none⟩) HGL.out).trans CE0.out)
  have BI6 := Lib.hid (bytesIn_later BI.out b6)
  have hs6 := b6.size
  have hB5 : w.heap.size < w5.heap.size := lt_row R5.out
  clear b6 CE0 BI R5 BEL5 T5
  have se := fun w' : World => src_str (bx E) d w'
  rw [← hz, bx_str] at se
  rw [hz] at se
  have SE := Lib.hid se
  clear se
  by_cases h64 : 64 ≤ d
  · obtain rfl : q = 2 := by rw [hqv]; rw [if_pos h64]
    have hi64 : (64 : Int) ≤ (d : Int) := by omega
    have hi2 : (x : Int) - 2 = (at_ : Int) := by omega
    have hmL : 1 + m ≤ n5 := by omega
    clear hqv h64 hx hat hL
    go_upto_region 9 with (fail)
    have HS : Hid ((fun w' : World => w'.cell? ⟨g, 0, none⟩ = some (.int .u8 (fs : Int)) ∧ w'.cell? ⟨w.heap.size, 6, none⟩ = some (.string E)) w6.drew) := Lib.hid ⟨CE6.out, c6⟩
    clear c0 c1 c2 c3 c4 c5 c6 c7 c8
    refine wp_region_held_drew (S := fun w' : World => w'.cell? ⟨g, 0, none⟩ = some (.int .u8 (fs : Int)) ∧ w'.cell? ⟨w.heap.size, 6, none⟩ = some (.string E)) mixedOrders HS.out (fun hHeld => ?_)
    clear hHeld
    refine wpAnyH_take (i := 0) (oi := ⟨some 53, _, _, _, _, _⟩) (v := .slice (some ⟨g, 0, none⟩) n5 cap) rfl (by kernel_rfl) (by kernel_rfl) (by kernel_rfl) (fun _ _ _ h => h) (Or.inl ⟨by rfl, fun w' hSw => ?_⟩) HS.out ?_
    · go_simp
    simp only [Act.put, List.setIfInBounds_toArray, List.set_cons_succ, List.set_cons_zero]
    refine wpAnyH_take (i := 1) (oi := ⟨some 54, _, _, _, _, _⟩) (v := .pointer (some ⟨g, 0, none⟩)) rfl (by kernel_rfl) (by kernel_rfl) (by kernel_rfl) (fun _ _ _ h => h) (Or.inl ⟨by rfl, fun w' hSw => ?_⟩) HS.out ?_
    · clear hSw
      go_simp
      intro h
      omega
    simp only [Act.put, List.setIfInBounds_toArray, List.set_cons_succ, List.set_cons_zero]
    refine wpAnyH_take (i := 2) (oi := ⟨some 55, _, _, _, _, _⟩) (v := .int .u8 (fs : Int)) rfl (by kernel_rfl) (by kernel_rfl) (by kernel_rfl) (fun _ _ _ h => h) (Or.inl ⟨by rfl, fun w' hSw => ?_⟩) HS.out ?_
    · obtain ⟨s1, s2⟩ := hSw
      go_simp
    simp only [Act.put, List.setIfInBounds_toArray, List.set_cons_succ, List.set_cons_zero]
    refine wpAnyH_take (i := 3) (oi := ⟨some 56, _, _, _, _, _⟩) (v := .int .u8 (k : Int)) rfl (by kernel_rfl) (by kernel_rfl) (by kernel_rfl) (fun _ _ _ h => h) (Or.inl ⟨by rfl, fun w' hSw => ?_⟩) HS.out ?_
    · clear hSw
      go_simp
      rw [IntKind.wrap_u8]
      omega
    simp only [Act.put, List.setIfInBounds_toArray, List.set_cons_succ, List.set_cons_zero]
    refine wpAnyH_take (i := 5) (oi := ⟨some 58, _, _, _, _, _⟩) (v := .slice (some ⟨g, 0, none⟩) n5 cap) rfl (by kernel_rfl) (by kernel_rfl) (by kernel_rfl) (fun _ _ _ h => h) (Or.inl ⟨by rfl, fun w' hSw => ?_⟩) HS.out ?_
    · go_simp
    simp only [Act.put, List.setIfInBounds_toArray, List.set_cons_succ, List.set_cons_zero]
    refine wpAnyH_take (i := 6) (oi := ⟨some 59, _, _, _, _, _⟩) (v := .int .i64 (at_ : Int)) rfl (by kernel_rfl) (by kernel_rfl) (by kernel_rfl) (fun _ _ _ h => h) (Or.inl ⟨by rfl, fun w' hSw => ?_⟩) HS.out ?_
    · go_simp
    simp only [Act.put, List.setIfInBounds_toArray, List.set_cons_succ, List.set_cons_zero]
    refine wpAnyH_take (i := 7) (oi := ⟨some 60, _, _, _, _, _⟩) (v := .slice (some ⟨g, 1, none⟩) m (cap - 1)) rfl (by kernel_rfl) (by kernel_rfl) (by kernel_rfl) (fun _ _ _ h => h) (Or.inl ⟨by rfl, fun w' hSw => ?_⟩) HS.out ?_
    · go_simp
    simp only [Act.put, List.setIfInBounds_toArray, List.set_cons_succ, List.set_cons_zero]
    refine wpAnyH_take (i := 9) (oi := ⟨some 62, _, _, _, _, _⟩) (v := .pointer (some ⟨w.heap.size, 6, none⟩)) rfl (by kernel_rfl) (by kernel_rfl) (by kernel_rfl) (fun _ _ _ h => h) (Or.inl ⟨by rfl, fun w' hSw => ?_⟩) HS.out ?_
    · go_simp
    simp only [Act.put, List.setIfInBounds_toArray, List.set_cons_succ, List.set_cons_zero]
    refine wpAnyH_take (i := 10) (oi := ⟨some 63, _, _, _, _, _⟩) (v := .string E) rfl (by kernel_rfl) (by kernel_rfl) (by kernel_rfl) (fun _ _ _ h => h) (Or.inl ⟨by rfl, fun w' hSw => ?_⟩) HS.out ?_
    · obtain ⟨s1, s2⟩ := hSw
      go_simp
    simp only [Act.put, List.setIfInBounds_toArray, List.set_cons_succ, List.set_cons_zero]
    have sx := src_one_new w6.drew (BitVec.ofNat 8 k)
    rw [show n8 (BitVec.ofNat 8 k) = (k : Int) by rw [n8_nat, BitVec.toNat_ofNat]; omega] at sx
    have ow := Own.made (B := w5.heap.size) (BitVec.ofNat 8 k) w6.drew hs6
    rw [show n8 (BitVec.ofNat 8 k) = (k : Int) by rw [n8_nat, BitVec.toNat_ofNat]; omega] at ow
    refine wpAnyH_ready (rs := [4]) (by kernel_rfl) (by simp) ?_
    refine AllReadyH.cons (i := 4) rfl (fun K hK => ?_) AllReadyH.nil
    rw [if_pos (by rfl)]
    go_simp
    have ow2 : Own w5.heap.size (.slice (some ⟨w6.heap.size, 0, none⟩) 1 1) 1 (fun _ => BitVec.ofNat 8 k) (w6.alloc (.cells #[.int .u8 (k : Int)] 5)).drew := ow
    have al := ((Below.refl w6.heap.size w6).alloc (Nat.le_refl _) (.cells #[.int .u8 (k : Int)] 5)).drew
    generalize (w6.alloc _).drew = w7 at *
    have hs7 : w7.cell? ⟨g, 0, none⟩ = some (.int .u8 (fs : Int)) ∧ w7.cell? ⟨w.heap.size, 6, none⟩ = some (.string E) :=
      ⟨(al.cell (p := ⟨g, 0, none⟩) (by have := HGL.out; show g < w6.heap.size; omega)).trans HS.out.1, (al.cell (p := ⟨w.heap.size, 6, none⟩) (lt_row R6.out)).trans HS.out.2⟩
    have OW7 := Lib.hid ow2
    have BI7 := Lib.hid (bytesIn_later BI6.out al)
    have B7 := Lib.hid al
    have HS7 := Lib.hid hs7
    refine hK.out _ _ hs7 (fun _ => ?_)
    clear hK K hs7 al ow ow2 sx HS
    try simp only [Act.put, List.setIfInBounds_toArray, List.set_cons_succ, List.set_cons_zero]
    refine wpAnyH_ready (rs := [8]) (by kernel_rfl) (by simp) ?_
    refine AllReadyH.cons (i := 8) rfl (fun K hK => ?_) AllReadyH.nil
    have SM := Lib.hid (src_in (bytesIn_cut (a' := some ⟨g, 1, none⟩) (lo := 1) (n := m) BI7.out (by omega) hLc (fun _ => rfl)) (cap - 1))
    refine step_append_bytes (o := ⟨some 61, _, _, _, _, _⟩) (by rfl) _ _ 28 rfl rfl rfl OW7.out SM.out (by omega) ?_
    intro v8 w8 o8 g8
    have hb8 := g8.below OW7.out
    have HS8 := Lib.hid (show w8.cell? ⟨g, 0, none⟩ = some (.int .u8 (fs : Int)) ∧ w8.cell? ⟨w.heap.size, 6, none⟩ = some (.string E) from
      ⟨(hb8.cell (p := ⟨g, 0, none⟩) HGL.out).trans HS7.out.1, (hb8.cell (p := ⟨w.heap.size, 6, none⟩) (by show w.heap.size < w5.heap.size; omega)).trans HS7.out.2⟩)
    have OW8 := Lib.hid o8
    have B8 := Lib.hid hb8
    clear o8 g8 hb8 HS7
    refine hK.out _ _ HS8.out (fun _ => ?_)
    clear hK K
    try simp only [Act.put, List.setIfInBounds_toArray, List.set_cons_succ, List.set_cons_zero]
    refine wpAnyH_ready (rs := [11]) (by kernel_rfl) (by simp) ?_
    refine AllReadyH.cons (i := 11) rfl (fun K hK => ?_) AllReadyH.nil
    refine step_append_bytes (o := ⟨some 64, _, _, _, _, _⟩) (by rfl) _ _ 9 rfl rfl rfl OW8.out (SE.out _) (by omega) ?_
    intro v9 w9 o9 g9
    have hb9 := g9.below OW8.out
    have HS := Lib.hid (show w9.cell? ⟨g, 0, none⟩ = some (.int .u8 (fs : Int)) ∧ w9.cell? ⟨w.heap.size, 6, none⟩ = some (.string E) from
      ⟨(hb9.cell (p := ⟨g, 0, none⟩) HGL.out).trans HS8.out.1, (hb9.cell (p := ⟨w.heap.size, 6, none⟩) (by show w.heap.size < w5.heap.size; omega)).trans HS8.out.2⟩)
    have OW9 := Lib.hid o9
    have B9 := Lib.hid hb9
    clear o9 g9 hb9
    refine hK.out _ _ HS.out (fun _ => ?_)
    clear hK K
    try simp only [Act.put, List.setIfInBounds_toArray, List.set_cons_succ, List.set_cons_zero]
    refine wpAnyH_take (i := 12) (oi := ⟨some 7, _, _, _, _, _⟩) (v := v9) rfl (by kernel_rfl) (by kernel_rfl) (by kernel_rfl) (fun _ _ _ h => h) (Or.inl ⟨by rfl, fun w' hSw => ?_⟩) HS.out ?_
    · go_simp
    simp only [Act.put, List.setIfInBounds_toArray, List.set_cons_succ, List.set_cons_zero]
    refine wpAnyH_done (by kernel_rfl) ?_ _
    have hE' : strOf (bx E) d = E := by rw [← HZ.out]; exact bx_str E
    have OS9 : OwnS w5.heap.size v9 (byteT k ++ (headS S O ++ E)) w9 := ⟨_, _, OW9.out, by
      rw [← TM.out, ← ByteArray.append_assoc]
      rw (occs := .pos [1]) [← hE']
      unfold byteT
      rw [joined, joined]⟩
    obtain ⟨M, hM⟩ : ∃ M, 1 + (m + d) = M := ⟨_, rfl⟩
    have hsz : (byteT k ++ (headS S O ++ E)).size = M := by rw [size_append, size_append, HMM.out, HZ.out, show (byteT k).size = 1 from strOf_size _ _]; exact hM
    obtain ⟨a9, c9, rfl, hc9, hm9, bi9, _⟩ := OS9.asTextN hsz
    have GR := get_stream (G := bx (byteT k ++ (headS S O ++ E))) (len := M) S O F E HC.out (by rw [HZ.out]; omega) (by rw [HFS.out, HK.out]; exact fun i _ => by rw [Nat.zero_add]) (by rw [HFS.out, HK.out]; exact hsz)
    have gt := get_any' (bx (byteT k ++ (headS S O ++ E))) a9 M c9 w9 bi9 hc9 hm9
    rw [GR] at gt
    have GT := Lib.hid gt
    have BEL9 := Lib.hid ((BEL6.out.trans (B7.out.mono BEL6.out.size)).trans ((B8.out.trans B9.out).mono (by omega)))
    have R9 := Lib.hid ((B9.out.block _ hB5).trans ((B8.out.block _ hB5).trans ((B7.out.block _ (lt_row R6.out)).trans R6.out)))
    have hM5 : M ≤ 5000 := by omega
    clear GR gt OS9 hE' hc9 hm9 bi9 hsz hM HS8 OW8 OW9 OW7 BI7 B7 B8 B9 SM SE HS kmid hi1 hi2 hi64 hL0 hki hf1 hk13 HC TM HMM HFS HK BI6 CE6 R6 BEL6 T6 hLc hcap63 HGL
    go_wp2_with fail
    refine GT.out.mono ?_
    rintro e w10 ⟨vv, rfl, s10, b10⟩
    obtain ⟨a0, c0, rfl, _, _⟩ := s10.at_
    dsimp only [Fr.cells]
    unfold frC
    have BEL10 := Lib.hid (BEL9.out.trans (b10.mono BEL9.out.size))
    have R10 := Lib.hid ((b10.block _ (lt_row R9.out)).trans R9.out)
    clear s10 b10 GT BEL9 R9
    go_upto_region 11 with (fail)
    have rowf := heap_alloc_last w10 (.cells #[.int .i64 8, .int .i64 S, .int .i64 O, .int .i64 0, .int .i64 0, .bool F, .string E, .string ⟨#[]⟩, .slice a0 0 c0] 33)
    have belf := (Below.refl w10.heap.size w10).alloc (Nat.le_refl _) (.cells #[.int .i64 8, .int .i64 S, .int .i64 O, .int .i64 0, .int .i64 0, .bool F, .string E, .string ⟨#[]⟩, .slice a0 0 c0] 33)
    generalize w10.alloc _ = w11 at *
    have R11 := Lib.hid ((belf.block _ (lt_row R10.out)).trans R10.out)
    have RF := Lib.hid rowf
    have BEL11 := Lib.hid (BEL10.out.trans (belf.mono BEL10.out.size))
    have fn := fun w' : World => from_nil 8 S O 0 0 F E ⟨#[]⟩ a0 c0 w'
    have sn := fun w' : World => same_nil 8 S O 0 0 F E ⟨#[]⟩ w'
    unfold frC at fn sn
    have FN := Lib.hid fn
    have SN := Lib.hid sn
    clear fn sn rowf belf BEL10 R10
    refine region_class1 14 (fun w' => Below w11.heap.size w11 w') mixedOrders (by kernel_rfl) (Below.refl _ _).drew rfl ?_
    refine wpQuiet_take (by rfl) (fun K hK => ⟨.int .i64 0, fun w2' hw2 => ?_, hK _ ?_⟩)
    · clear hw2; go_simp
    clear hK K
    simp only [Act.put, List.setIfInBounds_toArray, List.set_cons_succ, List.set_cons_zero]
    refine wpQuiet_take (by rfl) (fun K hK => ⟨.bool true, fun w2' hw2 => ?_, hK _ ?_⟩)
    · clear hw2; go_simp
    clear hK K
    simp only [Act.put, List.setIfInBounds_toArray, List.set_cons_succ, List.set_cons_zero]
    refine wpQuiet_take (by rfl) (fun K hK => ⟨.bool true, fun w2' hw2 => ?_, hK _ ?_⟩)
    · clear hw2; go_simp
    clear hK K
    simp only [Act.put, List.setIfInBounds_toArray, List.set_cons_succ, List.set_cons_zero]
    refine wpQuiet_take (by rfl) (fun K hK => ⟨.int .i64 (M : Int), fun w2' hw2 => ?_, hK _ ?_⟩)
    · clear hw2; go_simp
    clear hK K
    simp only [Act.put, List.setIfInBounds_toArray, List.set_cons_succ, List.set_cons_zero]
    refine wpQuiet_take (by rfl) (fun K hK => ⟨.slice a9 M c9, fun w2' hw2 => ?_, hK _ ?_⟩)
    · clear hw2; go_simp
    clear hK K
    simp only [Act.put, List.setIfInBounds_toArray, List.set_cons_succ, List.set_cons_zero]
    refine wpQuiet_take (by rfl) (fun K hK => ⟨.int .i64 (M : Int), fun w2' hw2 => ?_, hK _ ?_⟩)
    · clear hw2; go_simp
    clear hK K
    simp only [Act.put, List.setIfInBounds_toArray, List.set_cons_succ, List.set_cons_zero]
    refine wpQuiet_take (by rfl) (fun K hK => ⟨.bool true, fun w2' hw2 => ?_, hK _ ?_⟩)
    · clear hw2; go_simp
    clear hK K
    simp only [Act.put, List.setIfInBounds_toArray, List.set_cons_succ, List.set_cons_zero]
    refine wpQuiet_take (by rfl) (fun K hK => ⟨.bool true, fun w2' hw2 => ?_, hK _ ?_⟩)
    · clear hw2; go_simp
    clear hK K
    simp only [Act.put, List.setIfInBounds_toArray, List.set_cons_succ, List.set_cons_zero]
    refine wpQuiet_take (by rfl) (fun K hK => ⟨.bool true, fun w2' hw2 => ?_, hK _ ?_⟩)
    · clear hw2; go_simp
    clear hK K
    simp only [Act.put, List.setIfInBounds_toArray, List.set_cons_succ, List.set_cons_zero]
    refine wpQuiet_take (by rfl) (fun K hK => ⟨.agg #[.int .i64 8, .int .i64 S, .int .i64 O, .int .i64 0, .int .i64 0, .bool F, .string E, .string ⟨#[]⟩, .slice a0 0 c0], fun w2' hw2 => ?_, hK _ ?_⟩)
    · obtain ⟨d0, d1, d2, d3, d4, d5, d6, d7, d8⟩ := cells9 ((hw2.block _ (lt_row RF.out)).trans RF.out)
      go_simp
    clear hK K
    simp only [Act.put, List.setIfInBounds_toArray, List.set_cons_succ, List.set_cons_zero]
    refine wpQuiet_take (by rfl) (fun K hK => ⟨.agg #[.int .i64 8, .int .i64 S, .int .i64 O, .int .i64 0, .int .i64 0, .bool F, .string E, .string ⟨#[]⟩, .slice none 0 0], fun w2' hw2 => ?_, hK _ ?_⟩)
    · go_simp
      go_at_call 15
      refine (FN.out w2').mono ?_
      rintro e w5 ⟨rfl, hb5⟩
      exact ⟨rfl, hw2.trans (hb5.mono hw2.size)⟩
    clear hK K
    simp only [Act.put, List.setIfInBounds_toArray, List.set_cons_succ, List.set_cons_zero]
    refine wpQuiet_take (by rfl) (fun K hK => ⟨.agg #[.int .i64 8, .int .i64 S, .int .i64 O, .int .i64 0, .int .i64 0, .bool F, .string E, .string ⟨#[]⟩, .slice none 0 0], fun w2' hw2 => ?_, hK _ ?_⟩)
    · obtain ⟨d0, d1, d2, d3, d4, d5, d6, d7, d8⟩ := cells9 ((hw2.block _ (lt_row R11.out)).trans R11.out)
      go_simp
    clear hK K
    simp only [Act.put, List.setIfInBounds_toArray, List.set_cons_succ, List.set_cons_zero]
    refine wpQuiet_take (by rfl) (fun K hK => ⟨.bool true, fun w2' hw2 => ?_, hK _ ?_⟩)
    · go_simp
      go_at_call 14
      refine (SN.out w2').mono ?_
      rintro e w5 ⟨rfl, hb5⟩
      exact ⟨rfl, hw2.trans (hb5.mono hw2.size)⟩
    clear hK K
    simp only [Act.put, List.setIfInBounds_toArray, List.set_cons_succ, List.set_cons_zero]
    refine wpQuiet_take (by rfl) (fun K hK => ⟨.bool true, fun w2' hw2 => ?_, hK _ ?_⟩)
    · clear hw2; go_simp
    clear hK K
    simp only [Act.put, List.setIfInBounds_toArray, List.set_cons_succ, List.set_cons_zero]
    refine wpQuiet_take0 ?_
    intro w12 b12
    have BEL12 := Lib.hid (BEL11.out.trans (b12.mono BEL11.out.size))
    clear b12
    go_wp2_with fail
    go_ret
    exact ⟨rfl, BEL12.out⟩
  · obtain rfl : q = 1 := by rw [hqv]; rw [if_neg h64]
    have hi64 : ¬ (64 : Int) ≤ (d : Int) := by omega
    have hi2 : (x : Int) - 1 = (at_ : Int) := by omega
    have hmL : 1 + m ≤ n5 := by omega
    clear hqv h64 hx hat hL
    go_upto_region 9 with (fail)
    have HS : Hid ((fun w' : World => w'.cell? ⟨g, 0, none⟩ = some (.int .u8 (fs : Int)) ∧ w'.cell? ⟨w.heap.size, 6, none⟩ = some (.string E)) w6.drew) := Lib.hid ⟨CE6.out, c6⟩
    clear c0 c1 c2 c3 c4 c5 c6 c7 c8
    refine wp_region_held_drew (S := fun w' : World => w'.cell? ⟨g, 0, none⟩ = some (.int .u8 (fs : Int)) ∧ w'.cell? ⟨w.heap.size, 6, none⟩ = some (.string E)) mixedOrders HS.out (fun hHeld => ?_)
    clear hHeld
    refine wpAnyH_take (i := 0) (oi := ⟨some 53, _, _, _, _, _⟩) (v := .slice (some ⟨g, 0, none⟩) n5 cap) rfl (by kernel_rfl) (by kernel_rfl) (by kernel_rfl) (fun _ _ _ h => h) (Or.inl ⟨by rfl, fun w' hSw => ?_⟩) HS.out ?_
    · go_simp
    simp only [Act.put, List.setIfInBounds_toArray, List.set_cons_succ, List.set_cons_zero]
    refine wpAnyH_take (i := 1) (oi := ⟨some 54, _, _, _, _, _⟩) (v := .pointer (some ⟨g, 0, none⟩)) rfl (by kernel_rfl) (by kernel_rfl) (by kernel_rfl) (fun _ _ _ h => h) (Or.inl ⟨by rfl, fun w' hSw => ?_⟩) HS.out ?_
    · clear hSw
      go_simp
      intro h
      omega
    simp only [Act.put, List.setIfInBounds_toArray, List.set_cons_succ, List.set_cons_zero]
    refine wpAnyH_take (i := 2) (oi := ⟨some 55, _, _, _, _, _⟩) (v := .int .u8 (fs : Int)) rfl (by kernel_rfl) (by kernel_rfl) (by kernel_rfl) (fun _ _ _ h => h) (Or.inl ⟨by rfl, fun w' hSw => ?_⟩) HS.out ?_
    · obtain ⟨s1, s2⟩ := hSw
      go_simp
    simp only [Act.put, List.setIfInBounds_toArray, List.set_cons_succ, List.set_cons_zero]
    refine wpAnyH_take (i := 3) (oi := ⟨some 56, _, _, _, _, _⟩) (v := .int .u8 (k : Int)) rfl (by kernel_rfl) (by kernel_rfl) (by kernel_rfl) (fun _ _ _ h => h) (Or.inl ⟨by rfl, fun w' hSw => ?_⟩) HS.out ?_
    · clear hSw
      go_simp
      rw [IntKind.wrap_u8]
      omega
    simp only [Act.put, List.setIfInBounds_toArray, List.set_cons_succ, List.set_cons_zero]
    refine wpAnyH_take (i := 5) (oi := ⟨some 58, _, _, _, _, _⟩) (v := .slice (some ⟨g, 0, none⟩) n5 cap) rfl (by kernel_rfl) (by kernel_rfl) (by kernel_rfl) (fun _ _ _ h => h) (Or.inl ⟨by rfl, fun w' hSw => ?_⟩) HS.out ?_
    · go_simp
    simp only [Act.put, List.setIfInBounds_toArray, List.set_cons_succ, List.set_cons_zero]
    refine wpAnyH_take (i := 6) (oi := ⟨some 59, _, _, _, _, _⟩) (v := .int .i64 (at_ : Int)) rfl (by kernel_rfl) (by kernel_rfl) (by kernel_rfl) (fun _ _ _ h => h) (Or.inl ⟨by rfl, fun w' hSw => ?_⟩) HS.out ?_
    · go_simp
    simp only [Act.put, List.setIfInBounds_toArray, List.set_cons_succ, List.set_cons_zero]
    refine wpAnyH_take (i := 7) (oi := ⟨some 60, _, _, _, _, _⟩) (v := .slice (some ⟨g, 1, none⟩) m (cap - 1)) rfl (by kernel_rfl) (by kernel_rfl) (by kernel_rfl) (fun _ _ _ h => h) (Or.inl ⟨by rfl, fun w' hSw => ?_⟩) HS.out ?_
    · go_simp
    simp only [Act.put, List.setIfInBounds_toArray, List.set_cons_succ, List.set_cons_zero]
    refine wpAnyH_take (i := 9) (oi := ⟨some 62, _, _, _, _, _⟩) (v := .pointer (some ⟨w.heap.size, 6, none⟩)) rfl (by kernel_rfl) (by kernel_rfl) (by kernel_rfl) (fun _ _ _ h => h) (Or.inl ⟨by rfl, fun w' hSw => ?_⟩) HS.out ?_
    · go_simp
    simp only [Act.put, List.setIfInBounds_toArray, List.set_cons_succ, List.set_cons_zero]
    refine wpAnyH_take (i := 10) (oi := ⟨some 63, _, _, _, _, _⟩) (v := .string E) rfl (by kernel_rfl) (by kernel_rfl) (by kernel_rfl) (fun _ _ _ h => h) (Or.inl ⟨by rfl, fun w' hSw => ?_⟩) HS.out ?_
    · obtain ⟨s1, s2⟩ := hSw
      go_simp
    simp only [Act.put, List.setIfInBounds_toArray, List.set_cons_succ, List.set_cons_zero]
    have sx := src_one_new w6.drew (BitVec.ofNat 8 k)
    rw [show n8 (BitVec.ofNat 8 k) = (k : Int) by rw [n8_nat, BitVec.toNat_ofNat]; omega] at sx
    have ow := Own.made (B := w5.heap.size) (BitVec.ofNat 8 k) w6.drew hs6
    rw [show n8 (BitVec.ofNat 8 k) = (k : Int) by rw [n8_nat, BitVec.toNat_ofNat]; omega] at ow
    refine wpAnyH_ready (rs := [4]) (by kernel_rfl) (by simp) ?_
    refine AllReadyH.cons (i := 4) rfl (fun K hK => ?_) AllReadyH.nil
    rw [if_pos (by rfl)]
    go_simp
    have ow2 : Own w5.heap.size (.slice (some ⟨w6.heap.size, 0, none⟩) 1 1) 1 (fun _ => BitVec.ofNat 8 k) (w6.alloc (.cells #[.int .u8 (k : Int)] 5)).drew := ow
    have al := ((Below.refl w6.heap.size w6).alloc (Nat.le_refl _) (.cells #[.int .u8 (k : Int)] 5)).drew
    generalize (w6.alloc _).drew = w7 at *
    have hs7 : w7.cell? ⟨g, 0, none⟩ = some (.int .u8 (fs : Int)) ∧ w7.cell? ⟨w.heap.size, 6, none⟩ = some (.string E) :=
      ⟨(al.cell (p := ⟨g, 0, none⟩) (by have := HGL.out; show g < w6.heap.size; omega)).trans HS.out.1, (al.cell (p := ⟨w.heap.size, 6, none⟩) (lt_row R6.out)).trans HS.out.2⟩
    have OW7 := Lib.hid ow2
    have BI7 := Lib.hid (bytesIn_later BI6.out al)
    have B7 := Lib.hid al
    have HS7 := Lib.hid hs7
    refine hK.out _ _ hs7 (fun _ => ?_)
    clear hK K hs7 al ow ow2 sx HS
    try simp only [Act.put, List.setIfInBounds_toArray, List.set_cons_succ, List.set_cons_zero]
    refine wpAnyH_ready (rs := [8]) (by kernel_rfl) (by simp) ?_
    refine AllReadyH.cons (i := 8) rfl (fun K hK => ?_) AllReadyH.nil
    have SM := Lib.hid (src_in (bytesIn_cut (a' := some ⟨g, 1, none⟩) (lo := 1) (n := m) BI7.out (by omega) hLc (fun _ => rfl)) (cap - 1))
    refine step_append_bytes (o := ⟨some 61, _, _, _, _, _⟩) (by rfl) _ _ 28 rfl rfl rfl OW7.out SM.out (by omega) ?_
    intro v8 w8 o8 g8
    have hb8 := g8.below OW7.out
    have HS8 := Lib.hid (show w8.cell? ⟨g, 0, none⟩ = some (.int .u8 (fs : Int)) ∧ w8.cell? ⟨w.heap.size, 6, none⟩ = some (.string E) from
      ⟨(hb8.cell (p := ⟨g, 0, none⟩) HGL.out).trans HS7.out.1, (hb8.cell (p := ⟨w.heap.size, 6, none⟩) (by show w.heap.size < w5.heap.size; omega)).trans HS7.out.2⟩)
    have OW8 := Lib.hid o8
    have B8 := Lib.hid hb8
    clear o8 g8 hb8 HS7
    refine hK.out _ _ HS8.out (fun _ => ?_)
    clear hK K
    try simp only [Act.put, List.setIfInBounds_toArray, List.set_cons_succ, List.set_cons_zero]
    refine wpAnyH_ready (rs := [11]) (by kernel_rfl) (by simp) ?_
    refine AllReadyH.cons (i := 11) rfl (fun K hK => ?_) AllReadyH.nil
    refine step_append_bytes (o := ⟨some 64, _, _, _, _, _⟩) (by rfl) _ _ 9 rfl rfl rfl OW8.out (SE.out _) (by omega) ?_
    intro v9 w9 o9 g9
    have hb9 := g9.below OW8.out
    have HS := Lib.hid (show w9.cell? ⟨g, 0, none⟩ = some (.int .u8 (fs : Int)) ∧ w9.cell? ⟨w.heap.size, 6, none⟩ = some (.string E) from
      ⟨(hb9.cell (p := ⟨g, 0, none⟩) HGL.out).trans HS8.out.1, (hb9.cell (p := ⟨w.heap.size, 6, none⟩) (by show w.heap.size < w5.heap.size; omega)).trans HS8.out.2⟩)
    have OW9 := Lib.hid o9
    have B9 := Lib.hid hb9
    clear o9 g9 hb9
    refine hK.out _ _ HS.out (fun _ => ?_)
    clear hK K
    try simp only [Act.put, List.setIfInBounds_toArray, List.set_cons_succ, List.set_cons_zero]
    refine wpAnyH_take (i := 12) (oi := ⟨some 7, _, _, _, _, _⟩) (v := v9) rfl (by kernel_rfl) (by kernel_rfl) (by kernel_rfl) (fun _ _ _ h => h) (Or.inl ⟨by rfl, fun w' hSw => ?_⟩) HS.out ?_
    · go_simp
    simp only [Act.put, List.setIfInBounds_toArray, List.set_cons_succ, List.set_cons_zero]
    refine wpAnyH_done (by kernel_rfl) ?_ _
    have hE' : strOf (bx E) d = E := by rw [← HZ.out]; exact bx_str E
    have OS9 : OwnS w5.heap.size v9 (byteT k ++ (headS S O ++ E)) w9 := ⟨_, _, OW9.out, by
      rw [← TM.out, ← ByteArray.append_assoc]
      rw (occs := .pos [1]) [← hE']
      unfold byteT
      rw [joined, joined]⟩
    obtain ⟨M, hM⟩ : ∃ M, 1 + (m + d) = M := ⟨_, rfl⟩
    have hsz : (byteT k ++ (headS S O ++ E)).size = M := by rw [size_append, size_append, HMM.out, HZ.out, show (byteT k).size = 1 from strOf_size _ _]; exact hM
    obtain ⟨a9, c9, rfl, hc9, hm9, bi9, _⟩ := OS9.asTextN hsz
    have GR := get_stream (G := bx (byteT k ++ (headS S O ++ E))) (len := M) S O F E HC.out (by rw [HZ.out]; omega) (by rw [HFS.out, HK.out]; exact fun i _ => by rw [Nat.zero_add]) (by rw [HFS.out, HK.out]; exact hsz)
    have gt := get_any' (bx (byteT k ++ (headS S O ++ E))) a9 M c9 w9 bi9 hc9 hm9
    rw [GR] at gt
    have GT := Lib.hid gt
    have BEL9 := Lib.hid ((BEL6.out.trans (B7.out.mono BEL6.out.size)).trans ((B8.out.trans B9.out).mono (by omega)))
    have R9 := Lib.hid ((B9.out.block _ hB5).trans ((B8.out.block _ hB5).trans ((B7.out.block _ (lt_row R6.out)).trans R6.out)))
    have hM5 : M ≤ 5000 := by omega
    clear GR gt OS9 hE' hc9 hm9 bi9 hsz hM HS8 OW8 OW9 OW7 BI7 B7 B8 B9 SM SE HS kmid hi1 hi2 hi64 hL0 hki hf1 hk13 HC TM HMM HFS HK BI6 CE6 R6 BEL6 T6 hLc hcap63 HGL
    go_wp2_with fail
    refine GT.out.mono ?_
    rintro e w10 ⟨vv, rfl, s10, b10⟩
    obtain ⟨a0, c0, rfl, _, _⟩ := s10.at_
    dsimp only [Fr.cells]
    unfold frC
    have BEL10 := Lib.hid (BEL9.out.trans (b10.mono BEL9.out.size))
    have R10 := Lib.hid ((b10.block _ (lt_row R9.out)).trans R9.out)
    clear s10 b10 GT BEL9 R9
    go_upto_region 11 with (fail)
    have rowf := heap_alloc_last w10 (.cells #[.int .i64 8, .int .i64 S, .int .i64 O, .int .i64 0, .int .i64 0, .bool F, .string E, .string ⟨#[]⟩, .slice a0 0 c0] 33)
    have belf := (Below.refl w10.heap.size w10).alloc (Nat.le_refl _) (.cells #[.int .i64 8, .int .i64 S, .int .i64 O, .int .i64 0, .int .i64 0, .bool F, .string E, .string ⟨#[]⟩, .slice a0 0 c0] 33)
    generalize w10.alloc _ = w11 at *
    have R11 := Lib.hid ((belf.block _ (lt_row R10.out)).trans R10.out)
    have RF := Lib.hid rowf
    have BEL11 := Lib.hid (BEL10.out.trans (belf.mono BEL10.out.size))
    have fn := fun w' : World => from_nil 8 S O 0 0 F E ⟨#[]⟩ a0 c0 w'
    have sn := fun w' : World => same_nil 8 S O 0 0 F E ⟨#[]⟩ w'
    unfold frC at fn sn
    have FN := Lib.hid fn
    have SN := Lib.hid sn
    clear fn sn rowf belf BEL10 R10
    refine region_class1 14 (fun w' => Below w11.heap.size w11 w') mixedOrders (by kernel_rfl) (Below.refl _ _).drew rfl ?_
    refine wpQuiet_take (by rfl) (fun K hK => ⟨.int .i64 0, fun w2' hw2 => ?_, hK _ ?_⟩)
    · clear hw2; go_simp
    clear hK K
    simp only [Act.put, List.setIfInBounds_toArray, List.set_cons_succ, List.set_cons_zero]
    refine wpQuiet_take (by rfl) (fun K hK => ⟨.bool true, fun w2' hw2 => ?_, hK _ ?_⟩)
    · clear hw2; go_simp
    clear hK K
    simp only [Act.put, List.setIfInBounds_toArray, List.set_cons_succ, List.set_cons_zero]
    refine wpQuiet_take (by rfl) (fun K hK => ⟨.bool true, fun w2' hw2 => ?_, hK _ ?_⟩)
    · clear hw2; go_simp
    clear hK K
    simp only [Act.put, List.setIfInBounds_toArray, List.set_cons_succ, List.set_cons_zero]
    refine wpQuiet_take (by rfl) (fun K hK => ⟨.int .i64 (M : Int), fun w2' hw2 => ?_, hK _ ?_⟩)
    · clear hw2; go_simp
    clear hK K
    simp only [Act.put, List.setIfInBounds_toArray, List.set_cons_succ, List.set_cons_zero]
    refine wpQuiet_take (by rfl) (fun K hK => ⟨.slice a9 M c9, fun w2' hw2 => ?_, hK _ ?_⟩)
    · clear hw2; go_simp
    clear hK K
    simp only [Act.put, List.setIfInBounds_toArray, List.set_cons_succ, List.set_cons_zero]
    refine wpQuiet_take (by rfl) (fun K hK => ⟨.int .i64 (M : Int), fun w2' hw2 => ?_, hK _ ?_⟩)
    · clear hw2; go_simp
    clear hK K
    simp only [Act.put, List.setIfInBounds_toArray, List.set_cons_succ, List.set_cons_zero]
    refine wpQuiet_take (by rfl) (fun K hK => ⟨.bool true, fun w2' hw2 => ?_, hK _ ?_⟩)
    · clear hw2; go_simp
    clear hK K
    simp only [Act.put, List.setIfInBounds_toArray, List.set_cons_succ, List.set_cons_zero]
    refine wpQuiet_take (by rfl) (fun K hK => ⟨.bool true, fun w2' hw2 => ?_, hK _ ?_⟩)
    · clear hw2; go_simp
    clear hK K
    simp only [Act.put, List.setIfInBounds_toArray, List.set_cons_succ, List.set_cons_zero]
    refine wpQuiet_take (by rfl) (fun K hK => ⟨.bool true, fun w2' hw2 => ?_, hK _ ?_⟩)
    · clear hw2; go_simp
    clear hK K
    simp only [Act.put, List.setIfInBounds_toArray, List.set_cons_succ, List.set_cons_zero]
    refine wpQuiet_take (by rfl) (fun K hK => ⟨.agg #[.int .i64 8, .int .i64 S, .int .i64 O, .int .i64 0, .int .i64 0, .bool F, .string E, .string ⟨#[]⟩, .slice a0 0 c0], fun w2' hw2 => ?_, hK _ ?_⟩)
    · obtain ⟨d0, d1, d2, d3, d4, d5, d6, d7, d8⟩ := cells9 ((hw2.block _ (lt_row RF.out)).trans RF.out)
      go_simp
    clear hK K
    simp only [Act.put, List.setIfInBounds_toArray, List.set_cons_succ, List.set_cons_zero]
    refine wpQuiet_take (by rfl) (fun K hK => ⟨.agg #[.int .i64 8, .int .i64 S, .int .i64 O, .int .i64 0, .int .i64 0, .bool F, .string E, .string ⟨#[]⟩, .slice none 0 0], fun w2' hw2 => ?_, hK _ ?_⟩)
    · go_simp
      go_at_call 15
      refine (FN.out w2').mono ?_
      rintro e w5 ⟨rfl, hb5⟩
      exact ⟨rfl, hw2.trans (hb5.mono hw2.size)⟩
    clear hK K
    simp only [Act.put, List.setIfInBounds_toArray, List.set_cons_succ, List.set_cons_zero]
    refine wpQuiet_take (by rfl) (fun K hK => ⟨.agg #[.int .i64 8, .int .i64 S, .int .i64 O, .int .i64 0, .int .i64 0, .bool F, .string E, .string ⟨#[]⟩, .slice none 0 0], fun w2' hw2 => ?_, hK _ ?_⟩)
    · obtain ⟨d0, d1, d2, d3, d4, d5, d6, d7, d8⟩ := cells9 ((hw2.block _ (lt_row R11.out)).trans R11.out)
      go_simp
    clear hK K
    simp only [Act.put, List.setIfInBounds_toArray, List.set_cons_succ, List.set_cons_zero]
    refine wpQuiet_take (by rfl) (fun K hK => ⟨.bool true, fun w2' hw2 => ?_, hK _ ?_⟩)
    · go_simp
      go_at_call 14
      refine (SN.out w2').mono ?_
      rintro e w5 ⟨rfl, hb5⟩
      exact ⟨rfl, hw2.trans (hb5.mono hw2.size)⟩
    clear hK K
    simp only [Act.put, List.setIfInBounds_toArray, List.set_cons_succ, List.set_cons_zero]
    refine wpQuiet_take (by rfl) (fun K hK => ⟨.bool true, fun w2' hw2 => ?_, hK _ ?_⟩)
    · clear hw2; go_simp
    clear hK K
    simp only [Act.put, List.setIfInBounds_toArray, List.set_cons_succ, List.set_cons_zero]
    refine wpQuiet_take0 ?_
    intro w12 b12
    have BEL12 := Lib.hid (BEL11.out.trans (b12.mono BEL11.out.size))
    clear b12
    go_wp2_with fail
    go_ret
    exact ⟨rfl, BEL12.out⟩
end Go.Proofs.YtcgbhcmgddgheabDoor
