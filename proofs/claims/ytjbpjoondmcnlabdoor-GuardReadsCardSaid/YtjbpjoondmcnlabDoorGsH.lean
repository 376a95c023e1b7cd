/-
  guard's laws: a pack's head.
-/
import Derived.Test.YtjbpjoondmcnlabDoorGsG
namespace Go.Proofs.YtjbpjoondmcnlabDoor
open Go Go.RowKit Go.BigFrame
set_option linter.unusedSimpArgs false
set_option linter.unusedVariables false
set_option maxRecDepth 100000
def pkC (K I M H : ByteArray) (S N : Int) (C : ByteArray) (E : Int) (F : Bool) : Array Value := #[.string K, .string I, .string M, .string H, .int .i64 S, .int .i64 N, .string C, .int .i64 E, .bool F]
theorem pk_cells {w : World} {b : Nat} {T : TypeId} {K I M H C : ByteArray} {S N E : Int} {F : Bool} (h : w.heap[b]? = some (.cells (pkC K I M H S N C E F) T (0, 0))) :
    w.cell? ⟨b, 0, none⟩ = some (.string K) ∧ w.cell? ⟨b, 1, none⟩ = some (.string I) ∧ w.cell? ⟨b, 2, none⟩ = some (.string M) ∧ w.cell? ⟨b, 3, none⟩ = some (.string H) ∧ w.cell? ⟨b, 4, none⟩ = some (.int .i64 S) ∧ w.cell? ⟨b, 5, none⟩ = some (.int .i64 N) ∧ w.cell? ⟨b, 6, none⟩ = some (.string C) ∧ w.cell? ⟨b, 7, none⟩ = some (.int .i64 E) ∧ w.cell? ⟨b, 8, none⟩ = some (.bool F) := by
  refine ⟨?_, ?_, ?_, ?_, ?_, ?_, ?_, ?_, ?_⟩ <;> (rw [cell_of_row _ _ _ _ _ _ h]; rfl)
theorem OwnZ.put {B n : Nat} {v : Value} {f : Nat → BitVec 8} {w : World} (h : OwnZ B v n f w) (hn : 0 < n) : ∃ g c, v = .slice (some ⟨g, 0, none⟩) n c ∧ B ≤ g ∧ w.cell? ⟨g, 0, none⟩ = some (.int .u8 (n8 (f 0))) ∧ w.frozen? ⟨g, 0, none⟩ = false ∧ ∀ x : BitVec 8, OwnZ B v n (updb f 0 x) (w.setCell ⟨g, 0, none⟩ (.int .u8 (n8 x))) := by
  rcases h.row with ⟨_, h0⟩ | ⟨g, cap, cur, fr, rfl, h2, h3, h4, h5, h6, h7, h8⟩
  · omega
  · refine ⟨g, cap, rfl, h2, by rw [cell_of_row _ _ _ _ _ _ h3]; exact h8 0 hn, frozenF h3 h4 (by omega), fun x => ⟨.inr ?_, by simpa using h.base⟩⟩
    obtain ⟨cs', e1, e2, e3⟩ := setCells_rowF g 5 fr [.int .u8 (n8 x)] 0 w cur h3
    refine ⟨g, cap, cs', fr, rfl, h2, e1, by rw [e2]; exact h4, h5, h6, by rw [e2]; exact h7, fun i hi => ?_⟩
    rw [e3]
    unfold updb
    by_cases hij : i = 0
    · subst hij
      rw [if_pos ⟨by omega, by simp, by omega⟩, if_pos rfl]; simp
    · rw [if_neg (by simp; omega), if_neg hij]; exact h8 i hi
theorem n8_in (X : Int) (h0 : 0 ≤ X) (h1 : X < 256) : X = n8 (BitVec.ofInt 8 X) := by rw [n8_nat, BitVec.toNat_ofInt]; omega
theorem OwnZ.bytes' {B n : Nat} {v : Value} {f : Nat → BitVec 8} {w : World} (h : OwnZ B v n f w) : ∃ a c, v = .slice a n c ∧ n ≤ c ∧ c ≤ maxLen ∧ BytesIn w a n f := by
  rcases h.row with ⟨rfl, rfl⟩ | ⟨g, cap, cur, fr, rfl, h2, h3, h4, h5, h6, h7, h8⟩
  · exact ⟨none, 0, rfl, by omega, by unfold maxLen; omega, by unfold maxLen; omega, .inl rfl⟩
  · exact ⟨_, cap, rfl, h5, h6, by omega, .inr ⟨g, 0, rfl, lt_of_heap h3, fun i hi => by rw [Nat.zero_add, cell_of_row _ _ _ _ _ _ h3]; exact h8 i hi⟩⟩
theorem n8_of (X : Int) : X % 256 = n8 (BitVec.ofInt 8 X) := by rw [n8_nat, BitVec.toNat_ofInt]; omega
set_option maxHeartbeats 8000000 in
theorem fit_any (K I M C : ByteArray) (f : Nat → BitVec 8) (n : Nat) (S N E : Int) (F : Bool) (w : World) :
    Calls Tryd.prog 9 #[.agg (pkC K I M (strOf f n) S N C E F)] w fun e w' => ∃ g m, e = .returned (.string (strOf g m)) ∧ m ≤ 64 ∧ Below w.heap.size w w' := by
  have R0 : (w.alloc (.cells (pkC K I M (strOf f n) S N C E F) 25)).heap[w.heap.size]? = some (.cells (pkC K I M (strOf f n) S N C E F) 25 (0, 0)) := heap_alloc_last _ _
  have hb1 : Below w.heap.size w (w.alloc (.cells (pkC K I M (strOf f n) S N C E F) 25)) := (Below.refl w.heap.size w).alloc (Nat.le_refl _) _
  have HB := Lib.hid hb1
  have HL := Lib.hid (show w.heap.size < (w.alloc (.cells (pkC K I M (strOf f n) S N C E F) 25)).heap.size by simp)
  obtain ⟨c0, c1, c2, c3, c4, c5, c6, c7, c8⟩ := pk_cells R0
  have hk : min n 60 ≤ n := by omega
  have hk2 : min n 60 ≤ 60 := by omega
  have su := fun w' => run_str_upto f n (min n 60) (if (60 : Int) < (n : Int) then (60 : Int) else (n : Int)) (by split <;> omega) hk w'
  have hsz := strOf_size f n
  have hsz2 := strOf_size f (min n 60)
  have HEX := Lib.hid (show (60 : Int) < (n : Int) → (strOf f n).extract 0 60 = strOf f (min n 60) from fun h => by
    rw [sg_cut f 0 60 n (by omega) (by omega), show min n 60 = 60 by omega]
    congr 1
    funext i
    rw [Nat.zero_add])
  have HEY := Lib.hid (show ¬ (60 : Int) < (n : Int) → (strOf f n).extract 0 n = strOf f (min n 60) from fun h => by
    rw [sg_cut f 0 n n (by omega) (by omega), show min n 60 = n by omega]
    congr 1
    funext i
    rw [Nat.zero_add])
  generalize min n 60 = k at *
  have SRC := Lib.hid (fun w' : World => src_str f k w')
  have CO := Lib.hid (fun (w' : World) (B : Nat) (hB : B ≤ w'.heap.size) => conv_ownZ f k (by omega) w' B hB)
  clear hb1 R0 c0 c1 c2 c6 c7
  unfold pkC at *
  obtain ⟨SF, hSF⟩ : ∃ SF, strOf f k = SF := ⟨_, rfl⟩
  have HSF := Lib.hid hSF
  rw [hSF] at su hsz2 SRC CO HEX HEY
  clear hSF
  generalize strOf f n = SN at *
  rcases Decidable.em ((60 : Int) < (n : Int)) with h60 | h60
  all_goals
    first | have hx := HEX.out h60 | have hx := HEY.out h60
    by_cases hF : F = true
    · subst hF
      by_cases h1 : S < 1
      · go_enter Tryd.func9, Tryd.ntmps9
        go_wp2_with fail
        go_ret
        exact ⟨f, k, by rw [HSF.out]; rfl, by omega, HB.out⟩
      by_cases h2 : S > 4
      · go_enter Tryd.func9, Tryd.ntmps9
        go_wp2_with fail
        go_ret
        exact ⟨f, k, by rw [HSF.out]; rfl, by omega, HB.out⟩
      obtain ⟨s, rfl⟩ : ∃ s : Nat, S = (s : Int) := ⟨S.toNat, by omega⟩
      go_enter Tryd.func9, Tryd.ntmps9
      have hw1 : IntKind.wrap .i64 ((s : Int) - 1) = (s : Int) - 1 := by simp only [IntKind.wrap, IntKind.bits, IntKind.signed]; simp; omega
      go_upto_region 4 with (fail)
      obtain ⟨w1, hW1⟩ : ∃ w1, w.alloc (.cells #[.string K, .string I, .string M, .string SN, .int .i64 (s : Int), .int .i64 N, .string C, .int .i64 E, .bool true] 25) = w1 := ⟨_, rfl⟩
      rw [hW1] at HB HL c3 c4 c5 c8
      simp only [hW1]
      have C1 := Lib.hid (show w1.cell? ⟨w.heap.size, 4, none⟩ = some (.int .i64 (s : Int)) ∧ w1.cell? ⟨w.heap.size, 5, none⟩ = some (.int .i64 N) from ⟨c4, c5⟩)
      clear c3 c8 hW1 su c4 c5
      have hcv := conv_same w1 #[.int .u8 33] 5 1 1
      have O2 : OwnZ w1.heap.size (.slice (some ⟨w1.heap.size, 0, none⟩) 1 1) 1 (fun _ => 33#8) (w1.alloc (.cells #[.int .u8 33] 5 (1, 1 + 1))) :=
        ⟨.inr ⟨w1.heap.size, 1, #[.int .u8 33], (1, 2), rfl, Nat.le_refl _, heap_alloc_last _ _, .inr (Nat.le_refl _), Nat.le_refl _, by unfold maxLen; omega, rfl, fun j hj => by
          obtain rfl : j = 0 := by omega
          rw [show n8 33#8 = 33 by rw [n8_nat]; rfl]; rfl⟩, by simp⟩
      have b2 : Below w1.heap.size w1 (w1.alloc (.cells #[.int .u8 33] 5 (1, 1 + 1))) := (Below.refl _ _).alloc (Nat.le_refl _) _
      have HO2 := Lib.hid O2
      have HB2 := Lib.hid b2
      clear O2 b2
      go_upto_region 5 with (at_builtin; refine wpList_append_z (o := ⟨some 30, _, _, _, _, _⟩) (by rfl) _ _ 9 rfl rfl rfl HO2.out (SRC.out _) (by omega) ?_; intro v3 w3 o3 b3; have O3 := Lib.hid o3; have B3 := Lib.hid (HB2.out.trans b3); clear o3 b3)
      clear hcv HO2 HB2
      by_cases hk0 : k = 0
      · subst hk0
        have o3 := O3.out
        rw [Nat.add_zero] at o3
        clear O3
        obtain ⟨gb, cb, rfl, hgb, cz, fz, PUT⟩ := o3.put (by omega)
        have cs := (B3.out.cell (p := ⟨w.heap.size, 4, none⟩) HL.out).trans C1.out.1
        have PU := Lib.hid PUT
        have BB := Lib.hid B3.out
        clear PUT CO HSF B3 o3
        go_upto_region 7 with (fail)
        go_region
        go_wp2_with fail
        obtain ⟨x, hx8⟩ : ∃ x : BitVec 8, (n8 ((joinb (fun _ => 33#8) 1 f) 0)).tdiv 4 % 256 * 4 % 256 + ((s : Int) - 1) = n8 x := ⟨_, n8_in _ (by omega) (by omega)⟩
        rw [hx8]
        have OX := PU.out x
        have BX := Lib.hid (BB.out.setCell hgb (p := ⟨gb, 0, none⟩) (.int .u8 (n8 x)))
        clear PU cz fz cs hx8
        generalize World.setCell _ _ _ = wx at *
        have OXD := Lib.hid (show OwnZ w1.heap.size (.slice (some ⟨gb, 0, none⟩) 1 cb) 1 (updb (joinb (fun _ => 33#8) 1 f) 0 x) wx.drew from ⟨OX.row, OX.base⟩)
        clear OX BB
        go_loopw [4, 5] (fun s4 s5 wr => ∃ (t L : Nat) (g : Nat → BitVec 8), t ≤ s ∧ L = 1 + (s - t) ∧ s5 = .int .i64 ((t : Int) - 1) ∧ OwnZ w1.heap.size s4 L g wr ∧ Below w1.heap.size w1 wr) (fun _ s5 _ => (intOf s5 + 1).toNat)
        case atStart => exact ⟨s, _, _, by omega, by omega, rfl, OXD.out, BX.out.drew⟩
        case round =>
          clear OXD BX
          obtain ⟨t, L, g, ht, hLL, rfl, ow, bw⟩ := hrel
          have HLL := Lib.hid hLL
          clear hLL
          have OW := Lib.hid ow
          have BW := Lib.hid bw
          clear ow bw
          cases t with
          | zero =>
            have hz : ¬ (0 : Int) ≤ ((0 : Nat) : Int) - 1 := by omega
            obtain ⟨aw, cw, hv, _, _, inw⟩ := OW.out.bytes'
            subst hv
            have cv := conv_in _ aw _ cw wr inw
            clear inw
            go_wp2_with fail
            go_ret
            exact ⟨g, L, rfl, by have := HLL.out; omega, HB.out.trans (BW.out.mono HB.out.size)⟩
          | succ u =>
            have hL5 : L ≤ 64 := by have := HLL.out; omega
            have e5 : ((u + 1 : Nat) : Int) - 1 = (u : Int) := by omega
            rw [e5]
            have hz : (0 : Int) ≤ (u : Int) := by omega
            have cN := (BW.out.cell (p := ⟨w.heap.size, 5, none⟩) HL.out).trans C1.out.2
            have SR : Src Tryd.prog 1 31 (.slice (some ⟨wr.heap.size, 0, none⟩) 1 1) 1 (firsts (fun _ => BitVec.ofInt 8 (N / 2 ^ (8 * u))) 1) (wr.alloc (.cells #[.int .u8 (N / 2 ^ (8 * u) % 256)] 5)) := by
              rw [n8_of]; exact src_one_new wr _
            have SRH := Lib.hid SR
            have OA := Lib.hid (OW.out.later ((Below.refl wr.heap.size wr).alloc (Nat.le_refl _) (.cells #[.int .u8 (N / 2 ^ (8 * u) % 256)] 5)))
            have BA := Lib.hid (BW.out.alloc BW.out.size (.cells #[.int .u8 (N / 2 ^ (8 * u) % 256)] 5))
            clear SR OW BW
            go_wp2_with (at_builtin; refine wpList_append_z (o := ⟨some 63, _, _, _, _, _⟩) (by rfl) _ _ 31 rfl rfl rfl OA.out SRH.out (by omega) ?_; intro v7 w7 o7 b7; have O7 := Lib.hid o7; have B7 := Lib.hid (BA.out.trans b7); clear o7 b7)
            go_roundw
            case rel => exact ⟨u, L + 1, _, by omega, by have := HLL.out; omega, by go_num, O7.out, B7.out⟩
            case measure => (simp [intOf] <;> omega)
      · have hkI : (0 : Int) < (k : Int) := by omega
        obtain ⟨v4, w4, hcv, o4, b4⟩ := CO.out w3 w1.heap.size B3.out.size
        have B4 := Lib.hid (B3.out.trans (b4.mono B3.out.size))
        obtain ⟨gb, cb, rfl, hgb, cz, fz, PUT⟩ := o4.put (by omega)
        have cs := (B4.out.cell (p := ⟨w.heap.size, 4, none⟩) HL.out).trans C1.out.1
        have PU := Lib.hid PUT
        have BB := Lib.hid B4.out
        clear PUT O3 CO HSF o4 b4 B3 B4
        go_upto_region 7 with (fail)
        go_region
        go_wp2_with fail
        clear hcv
        obtain ⟨x, hx8⟩ : ∃ x : BitVec 8, (n8 (f 0)).tdiv 4 % 256 * 4 % 256 + ((s : Int) - 1) = n8 x := ⟨_, n8_in _ (by omega) (by omega)⟩
        rw [hx8]
        have OX := PU.out x
        have BX := Lib.hid (BB.out.setCell hgb (p := ⟨gb, 0, none⟩) (.int .u8 (n8 x)))
        clear PU cz fz cs hx8
        generalize World.setCell _ _ _ = wx at *
        have OXD := Lib.hid (show OwnZ w1.heap.size (.slice (some ⟨gb, 0, none⟩) k cb) k (updb f 0 x) wx.drew from ⟨OX.row, OX.base⟩)
        clear OX BB
        go_loopw [4, 5] (fun s4 s5 wr => ∃ (t L : Nat) (g : Nat → BitVec 8), t ≤ s ∧ L = k + (s - t) ∧ s5 = .int .i64 ((t : Int) - 1) ∧ OwnZ w1.heap.size s4 L g wr ∧ Below w1.heap.size w1 wr) (fun _ s5 _ => (intOf s5 + 1).toNat)
        case atStart => exact ⟨s, _, _, by omega, by omega, rfl, OXD.out, BX.out.drew⟩
        case round =>
          clear OXD BX
          obtain ⟨t, L, g, ht, hLL, rfl, ow, bw⟩ := hrel
          have HLL := Lib.hid hLL
          clear hLL
          have OW := Lib.hid ow
          have BW := Lib.hid bw
          clear ow bw
          cases t with
          | zero =>
            have hz : ¬ (0 : Int) ≤ ((0 : Nat) : Int) - 1 := by omega
            obtain ⟨aw, cw, hv, _, _, inw⟩ := OW.out.bytes'
            subst hv
            have cv := conv_in _ aw _ cw wr inw
            clear inw
            go_wp2_with fail
            go_ret
            exact ⟨g, L, rfl, by have := HLL.out; omega, HB.out.trans (BW.out.mono HB.out.size)⟩
          | succ u =>
            have hL5 : L ≤ 64 := by have := HLL.out; omega
            have e5 : ((u + 1 : Nat) : Int) - 1 = (u : Int) := by omega
            rw [e5]
            have hz : (0 : Int) ≤ (u : Int) := by omega
            have cN := (BW.out.cell (p := ⟨w.heap.size, 5, none⟩) HL.out).trans C1.out.2
            have SR : Src Tryd.prog 1 31 (.slice (some ⟨wr.heap.size, 0, none⟩) 1 1) 1 (firsts (fun _ => BitVec.ofInt 8 (N / 2 ^ (8 * u))) 1) (wr.alloc (.cells #[.int .u8 (N / 2 ^ (8 * u) % 256)] 5)) := by
              rw [n8_of]; exact src_one_new wr _
            have SRH := Lib.hid SR
            have OA := Lib.hid (OW.out.later ((Below.refl wr.heap.size wr).alloc (Nat.le_refl _) (.cells #[.int .u8 (N / 2 ^ (8 * u) % 256)] 5)))
            have BA := Lib.hid (BW.out.alloc BW.out.size (.cells #[.int .u8 (N / 2 ^ (8 * u) % 256)] 5))
            clear SR OW BW
            go_wp2_with (at_builtin; refine wpList_append_z (o := ⟨some 63, _, _, _, _, _⟩) (by rfl) _ _ 31 rfl rfl rfl OA.out SRH.out (by omega) ?_; intro v7 w7 o7 b7; have O7 := Lib.hid o7; have B7 := Lib.hid (BA.out.trans b7); clear o7 b7)
            go_roundw
            case rel => exact ⟨u, L + 1, _, by omega, by have := HLL.out; omega, by go_num, O7.out, B7.out⟩
            case measure => (simp [intOf] <;> omega)
    · obtain rfl : F = false := by cases F <;> simp_all
      go_enter Tryd.func9, Tryd.ntmps9
      go_wp2_with fail
      go_ret
      exact ⟨f, k, by rw [HSF.out]; rfl, by omega, HB.out⟩
end Go.Proofs.YtjbpjoondmcnlabDoor
