/-
  hkdf: the document's Expand; a call in a region whose operations only add memory.
-/
import Derived.Test.YtebhhonmpoeliaaDoorHkdfC
import Derived.Test.YtebhhonmpoeliaaDoorShaT
namespace Go.Proofs.YtebhhonmpoeliaaDoor
open Go Go.RowKit Go.BigFrame
set_option linter.unusedSimpArgs false
set_option linter.unusedVariables false
/-- Number i alone may come up: a call, which may make memory. -/
theorem anyM_call {P : Program} {ops : Array Oper} {Q : Exit → Act → World → Prop} {md : Region.Mode} {i : Nat} {o : Oper} {f : Nat} {l : Array Bool} {a : Act} {w : World} (fn : FuncId) (args : Array Value) (hr : Region.ready md ops l = [i]) (hi : ops[i]? = some o) (hw : Region.wanted o (yielded ops a.tmps) = true)
    (he : ∀ w2, (execOp a.eval o).run P w2 = .ok (.enter fn args) w2)
    (h : ∀ w2, Ext w w2 → Calls P fn args w2 fun e w3 => ∃ v, e = .returned v ∧ Ext w2 w3 ∧ anyM P md ops Q f (l.setIfInBounds i true) (a.put o.dst v) w3) : anyM P md ops Q (f + 1) l a w := by
  refine ⟨fun h0 => (by rw [hr] at h0; cases h0), fun j hj w2 e => ?_⟩
  rw [hr, List.mem_singleton] at hj
  subst hj
  have h2 := h w2 e
  unfold wpOp
  simp only [hi]
  rw [if_pos hw]
  refine .inl ?_
  unfold Oper.wp
  rw [he w2]
  refine Calls.mono h2 fun x w3 hx => ?_
  obtain ⟨v, rfl, h3, h4⟩ := hx
  exact ⟨h3, h4⟩
theorem conv_one (w : World) (x : BitVec 8) : (convert 40 9 (.slice (some ⟨w.heap.size, 0, none⟩) 1 1)).run Tryd.prog (w.alloc (.cells #[.int .u8 (n8 x)] 5)) = .ok (.string (strOf (fun _ => x) 1)) (w.alloc (.cells #[.int .u8 (n8 x)] 5)) := by
  have hrow := heap_alloc_last w (.cells #[.int .u8 (n8 x)] 5)
  exact conv_str (fun _ => x) w.heap.size 0 1 1 _ (fun i hi => by
    obtain rfl : i = 0 := by omega
    rw [cell_of_row _ _ _ _ _ _ hrow]; rfl)
theorem refExpand_bad (s t : ByteArray) (x : Int) (hx : x < 0 ∨ 8160 < x) (w : World) :
    Calls Tryd.prog 26 #[.string s, .string t, .int .i64 x] w fun e w' => e = .returned (.tuple #[.string (strOf (fun _ => 0#8) 0), .int .i64 1]) ∧ w = w' := by
  go_enter Tryd.func26, Tryd.ntmps26
  rcases hx with h | h
  · go_wp2
    go_ret2
    exact ⟨rfl, rfl⟩
  · have h0 : ¬ x < 0 := by omega
    go_wp2
    go_ret2
    exact ⟨rfl, rfl⟩
set_option maxHeartbeats 16000000 in
set_option maxRecDepth 100000 in
theorem refExpand_ok (f g : Nat → BitVec 8) (m n N : Nat) (hm : m ≤ 50000) (hn : n ≤ 40000) (hN : N ≤ 8160) (w : World) :
    Calls Tryd.prog 26 #[.string (strOf f m), .string (strOf g n), .int .i64 (N : Int)] w fun e w' => e = .returned (.tuple #[.string (strOf (expB (keyB f m) g n) N), .int .i64 0]) ∧ Below w.heap.size w w' := by
  obtain ⟨K, hK⟩ : ∃ K, keyB f m = K := ⟨_, rfl⟩
  have MC := Lib.hid (fun (p : Nat → BitVec 8) (k : Nat) (hk : k ≤ 50000) (w' : World) => refMac_any f p m k hm hk w')
  obtain ⟨R, hR⟩ : ∃ R, strOf (expB K g n) N = R := ⟨_, rfl⟩
  rw [hK] at MC ⊢
  rw [hR]
  have HR := Lib.hid hR
  clear hK hR
  have zg := strOf_size g n
  have ZG := Lib.hid zg
  have JG := Lib.hid (fun (p : Nat → BitVec 8) (k : Nat) => strOf_join p g k n)
  generalize strOf f m = SF at *
  generalize strOf g n = SG at *
  go_enter Tryd.func26, Tryd.ntmps26
  have h0 : ¬ (N : Int) < 0 := by omega
  have h1 : ¬ (8160 : Int) < (N : Int) := by omega
  go_wp2_with fail
  clear h0 h1
  go_loopw [8, 9, 10] (fun s8 s9 s10 wr => ∃ i : Nat, 32 * i < N + 32 ∧ s10 = .int .i64 ((i : Int) + 1) ∧ Own w.heap.size s8 (32 * i) (expB K g n) wr ∧ s9 = .string (strOf (tB K g n i) (tl i)) ∧ Below w.heap.size w wr) (fun _ _ s10 _ => N + 32 - 32 * (intOf s10).toNat)
  case atStart => exact ⟨0, by omega, rfl, Own.nil _ _ _ (Nat.le_refl _), rfl, Below.refl _ _⟩
  case round =>
    obtain ⟨i, hi, rfl, o8, rfl, bel⟩ := hrel
    have BEL := Lib.hid bel
    have O8 := Lib.hid o8
    obtain ⟨a8, c8, rfl, hc8, hm8, bi8, _, hg8⟩ := o8.asMine
    clear hg8 o8 bel
    by_cases hlt : 32 * i < N
    · obtain ⟨L, hL⟩ : ∃ L, 32 * i = L := ⟨_, rfl⟩
      rw [hL] at O8 hc8 ⊢
      have hlI : (L : Int) < (N : Int) := by omega
      have HLI := Lib.hid hL
      have HLT := Lib.hid hlt
      have hi255 : i ≤ 255 := by omega
      have hby : ((i : Int) + 1) % 256 = n8 (BitVec.ofNat 8 (i + 1)) := by rw [n8_nat, BitVec.toNat_ofNat]; omega
      obtain ⟨x, hx⟩ : ∃ x, BitVec.ofNat 8 (i + 1) = x := ⟨_, rfl⟩
      rw [hx] at hby
      have htl := tl_le i
      have j1 := JG.out (tB K g n i) (tl i)
      have j2 := strOf_join (joinb (tB K g n i) (tl i) g) (fun _ => x) (tl i + n) 1
      have hc1 := conv_one wr x
      have z1 := strOf_size (tB K g n i) (tl i)
      have z2 := strOf_size (joinb (tB K g n i) (tl i) g) (tl i + n)
      have z3 := strOf_size (fun _ => x) 1
      have MX := Lib.hid (MC.out (joinb (joinb (tB K g n i) (tl i) g) (tl i + n) (fun _ => x)) (tl i + n + 1) (by omega))
      have et : macB K (joinb (joinb (tB K g n i) (tl i) g) (tl i + n) (fun _ => x)) (tl i + n + 1) = tB K g n (i + 1) := by rw [← hx]; rfl
      rw [et] at MX
      obtain ⟨t, ht⟩ : ∃ t, tB K g n (i + 1) = t := ⟨_, rfl⟩
      rw [ht] at MX
      have HT := Lib.hid ht
      clear et ht hx hL hlt hi bi8
      obtain ⟨T0, hT0⟩ : ∃ T0, tl i = T0 := ⟨_, rfl⟩
      have HT0 := Lib.hid hT0
      have h63 : ¬ 9223372036854775807 < tl i + n := by omega
      have h64 : ¬ 9223372036854775807 < tl i + n + 1 := by omega
      generalize strOf (tB K g n i) (tl i) = S1 at *
      generalize strOf (joinb (tB K g n i) (tl i) g) (tl i + n) = S2 at *
      generalize strOf (fun _ => x) 1 = S3 at *
      generalize strOf (joinb (joinb (tB K g n i) (tl i) g) (tl i + n) (fun _ => x)) (tl i + n + 1) = S4 at *
      have zg := ZG.out
      clear hT0
      go_wp2_with fail
      have hal : Below wr.heap.size wr (wr.alloc (.cells #[.int .u8 (n8 x)] 5)) := (Below.refl _ _).alloc (Nat.le_refl _) _
      have MW := Lib.hid (MX.out (wr.alloc (.cells #[.int .u8 (n8 x)] 5)))
      have O9 := O8.out.later hal
      have B9 := BEL.out.trans (hal.mono BEL.out.size)
      obtain ⟨wa, hwa⟩ : ∃ wa, wr.alloc (.cells #[.int .u8 (n8 x)] 5) = wa := ⟨_, rfl⟩
      rw [hwa] at MW O9 B9 hal
      rw [hwa]
      clear hwa hc1 j1 j2 z1 z2 z3 MX MC JG ZG O8 BEL
      with_reducible refine MW.out.mono ?_
      rintro e w3 ⟨rfl, hb3⟩
      have O3 := Lib.hid (O9.later hb3)
      have B3 := Lib.hid (B9.trans (hb3.mono B9.size))
      have SR := Lib.hid (src_str t 32 w3)
      clear O9 B9 hb3 MW hal
      go_wp2_with (first
        | (at_builtin; refine wpList_append_bytes (o := ⟨some 35, _, _, _, _, _⟩) rfl _ _ 9 rfl rfl rfl O3.out SR.out (by omega) ?_; intro v4 w4 o4 g4; have O4 := Lib.hid o4; have G4 := Lib.hid g4; clear o4 g4)
        | fail)
      go_roundw
      case rel =>
        have hL := HLI.out
        have hlt := HLT.out
        have bx := B3.out.trans (G4.out.below O3.out)
        have ox := O4.out
        subst hL
        refine ⟨i + 1, by omega, by go_num, ?_, ?_, bx⟩
        · rw [show 32 * (i + 1) = 32 * i + 32 by omega]
          refine ox.congr (fun j hj => ?_)
          rw [← HT.out]
          exact expB_snoc K g n i 32 (Nat.le_refl _) j hj
        · rw [tl_succ, HT.out]
      case measure =>
        have hlt := HLT.out
        simp [intOf]
        omega
    · have hNL : N ≤ 32 * i := by omega
      obtain ⟨L, hL⟩ : ∃ L, 32 * i = L := ⟨_, rfl⟩
      rw [hL] at O8 hc8 hNL bi8 ⊢
      have hlI : ¬ (L : Int) < (N : Int) := by omega
      have hs := run_upto wr a8 N L c8 hNL hc8
      have hcv := conv_in (expB K g n) a8 N c8 wr (bytesIn_upto bi8 hNL)
      rw [HR.out] at hcv
      clear hL bi8 hlt hi MC JG ZG O8
      go_wp2_with fail
      go_ret2
      exact ⟨rfl, BEL.out⟩
end Go.Proofs.YtebhhonmpoeliaaDoor
