/-
  Bytes that are written in any parts, with the sum asked between, have the sum of all, at the commit of COMMIT; the table of sha's constants holds what the program's text lays.
-/
import Derived.Test.YtcdgpnfiimlnbaaDoorRows
import Derived.Test.YtcdgpnfiimlnbaaDoorCards
import Derived.Test.YtcdgpnfiimlnbaaDoorTie
import Derived.Test.YtcdgpnfiimlnbaaDoorShaDoor
import Derived.Test.YtcdgpnfiimlnbaaDoorShaN
import Derived.Test.YtcdgpnfiimlnbaaDoorParts
import Derived.WalkKit
import Derived.ProofKit
import Derived.OpenShut
import Derived.ShutString
import Derived.ChangeOld
import Derived.Below
import Derived.Deep.DeepCutAuto
import Derived.Deep.Upon
import Derived.Deep.AppendSrc
import Derived.SevenTiedAt
import Derived.LaidMore
import Derived.SizedLaws
import Derived.Lib.SmallJoins
namespace Go.Proofs.YtcdgpnfiimlnbaaDoor.shaParts
open Go Go.ChangeShapes Go.WideShapes Go.ChangeAt Go.RowKit Go.BigFrame
set_option linter.unusedVariables false
theorem load_row32 {w : World} {g : Nat} {p : Nat → BitVec 8} (h : w.heap[g]? = some (.cells (bytesA p 32) 24 (0, 0))) : (Instr.loadAt 24 (.pointer (some ⟨g, 0, none⟩))).run Tryd.prog w = .ok (.agg (bytesA p 32)) w := by
  simp only [Instr.loadAt, Instr.sureAddr, Sem.run_bind, Sem.run_pure, Result.andThen_ok]
  exact run_loadVar_row _ _ 24 _ _ (0, 0) _ h Tryd.underlying24 rfl (by rw [bytesA_size]; kernel_rfl)
set_option maxRecDepth 100000 in
set_option maxHeartbeats 16000000 in
theorem parts_any (a : Option Addr) (n c : Nat) (A : Nat → Option Addr) (L C : Nat → Nat) (F : Nat → Nat → BitVec 8) (w : World) (T : TabK w) (hp : PartsIn w a n A L C F) (hc : n ≤ c) (hcm : c ≤ maxLen) :
    Calls Tryd.prog 5 #[.slice a n c] w fun e w' => e = .returned (.bool true) ∧ Below w.heap.size w w' := by
  have HP := Lib.hid hp
  have TK := Lib.hid T
  have TL := T.lt
  clear hp T
  go_enter Tryd.func5, Tryd.ntmps5
  go_wp2_with fail
  with_reducible refine (none_any w).mono ?_
  rintro e w0 ⟨rfl, rfl⟩
  go_wp2_with fail
  with_reducible refine (write_nil _ w).mono ?_
  rintro e w0 ⟨rfl, rfl⟩
  go_wp2_with fail
  with_reducible refine (digests_any w TK.out).mono ?_
  rintro e w1 ⟨rfl, hb1⟩
  go_wp2_with fail
  with_reducible refine (none_any w1).mono ?_
  rintro e w0 ⟨rfl, rfl⟩
  go_wp2_with fail
  with_reducible refine (len_nil w1).mono ?_
  rintro e w0 ⟨rfl, rfl⟩
  go_wp2_with fail
  with_reducible refine (none_any w1).mono ?_
  rintro e w0 ⟨rfl, rfl⟩
  go_wp2_with fail
  with_reducible refine (sum_any none 0 (fun _ => 0#8) w1 (TK.out.later hb1) (.inl ⟨rfl, rfl⟩) (by omega)).mono ?_
  rintro e w2 ⟨rfl, hb2'⟩
  have hb2 := hb1.trans (hb2'.mono hb1.size)
  clear hb1 hb2'
  go_wp2_with fail
  have bi0 : BytesIn w2 none 0 (fun _ => 0#8) := ⟨Nat.zero_le _, .inl rfl⟩
  with_reducible refine (shaSum_any 0 0 (fun _ => 0#8) none w2 (TK.out.later hb2) bi0 (Nat.le_refl _) (Nat.zero_le _) (by omega)).mono ?_
  rintro e w3 ⟨rfl, hb3'⟩
  have hb3 := hb2.trans (hb3'.mono hb2.size)
  have es : sumS (fun _ => 0#8) 0 = sumB kW startW (fun _ => 0#8) 0 := rfl
  rw [es]
  obtain ⟨sm, hsm⟩ : ∃ sm, sumB kW startW (fun _ => 0#8) 0 = sm := ⟨_, rfl⟩
  simp only [hsm]
  have eq0 := eq32_same sm
  clear hb2 hb3' es hsm
  go_wp2_with fail
  with_reducible refine (new_any w3).mono ?_
  rintro e w4 ⟨rfl, hr4, hb4, hz4⟩
  have B4 := Lib.hid (hb3.trans (hb4.mono hb3.size))
  obtain ⟨x, hx⟩ : ∃ x, w3.heap.size = x := ⟨_, rfl⟩
  have hwx : w.heap.size ≤ w3.heap.size := hb3.size
  rw [hx] at hr4 hz4 hwx ⊢
  have H4 := Lib.hid (hashSt_zero (fun _ => 0#8) hr4)
  clear hb3 hb4 hr4 hx eq0 bi0
  clear w1 w2 w3
  go_wp2_with fail
  go_loopw [4, 5] (fun s4 s5 wr => ∃ (i N : Nat) (f : Nat → BitVec 8), i ≤ n ∧ i ≤ 30 ∧ s5 = .int .i64 (i : Int) ∧ N ≤ 300 * i ∧ HashSt wr x f N ∧ Own (x + 1) s4 N f wr ∧ Below w.heap.size w wr) (fun _ s5 _ => 30 - (intOf s5).toNat)
  case atStart => exact ⟨0, 0, fun _ => 0#8, Nat.zero_le _, Nat.zero_le _, rfl, Nat.le_refl _, H4.out, Own.nil _ _ _ (by omega), B4.out⟩
  case round =>
    clear H4 B4 hz4
    obtain ⟨i, N, f, hin, hi30, rfl, hN, hst, hown, bel⟩ := hrel
    have hxr := hst.lt
    have hbr := bel.size
    have ST := Lib.hid hst
    have OW := Lib.hid hown
    have BEL := Lib.hid bel
    clear hst hown bel
    by_cases hlt : i < n ∧ i < 30
    · obtain ⟨hln, hl30⟩ := hlt
      have hnI : (i : Int) < (n : Int) := by omega
      have h3I : (i : Int) < 30 := by omega
      have PR := HP.out.later BEL.out
      obtain ⟨pb, po, rfl, hpb, hpc⟩ : ∃ b off, a = some ⟨b, off, none⟩ ∧ b < wr.heap.size ∧ ∀ i, i < n → wr.cell? ⟨b, off + i, none⟩ = some (.slice (A i) (L i) (C i)) := by
        rcases PR.cells with h0 | h1
        · omega
        · exact h1
      obtain ⟨hbi, hlc, hcl⟩ := PR.each i hln
      have PC := Lib.hid (fun (w' : World) (hb : Below wr.heap.size wr w') => (show w'.cell? ⟨pb, po + i, none⟩ = some (.slice (A i) (L i) (C i)) by rw [hb.cell (p := ⟨pb, po + i, none⟩) hpb]; exact hpc i hln))
      obtain ⟨k, hk⟩ : ∃ k, min (L i) 300 = k := ⟨_, rfl⟩
      have hkl : k ≤ L i := by omega
      have hk300 : k ≤ 300 := by omega
      have HK := Lib.hid hk
      have BI := Lib.hid (bytesIn_upto hbi hkl)
      clear hpc hpb hk
      go_upto_region 9 with fail
      go_cut [6] (fun v6 wx => Own wr.heap.size v6 k (F i) wx ∧ Below wr.heap.size wr wx)
      case first =>
        have hmin : (if 300 < (L i : Int) then 300 else (L i : Int)) = (k : Int) := by
          have := HK.out
          by_cases h : L i ≤ 300
          · rw [if_neg (by omega)]; omega
          · rw [if_pos (by omega)]; omega
        have HM := Lib.hid hmin
        have hsu := fun w' => run_upto w' (A i) k (L i) (C i) hkl hlc
        clear hmin
        refine region_anyM mixedOrders ?_
        refine anyM_take (i := 1) (oi := ⟨some 36, _, _, _, _, _⟩) (v := .slice (some ⟨pb, po, none⟩) n c) rfl (by kernel_rfl) (by kernel_rfl) (by kernel_rfl) (fun _ _ _ h => h) (.inl ⟨by rfl, fun w2 hw2 => ?_⟩) ?_
        · clear hw2
          go_simp
        simp only [Act.put, List.setIfInBounds_toArray, List.set_cons_succ, List.set_cons_zero]
        refine anyM_take (i := 2) (oi := ⟨some 37, _, _, _, _, _⟩) (v := .int .i64 (i : Int)) rfl (by kernel_rfl) (by kernel_rfl) (by kernel_rfl) (fun _ _ _ h => h) (.inl ⟨by rfl, fun w2 hw2 => ?_⟩) ?_
        · clear hw2
          go_simp
        simp only [Act.put, List.setIfInBounds_toArray, List.set_cons_succ, List.set_cons_zero]
        refine anyM_take (i := 3) (oi := ⟨some 38, _, _, _, _, _⟩) (v := .pointer (some ⟨pb, po + i, none⟩)) rfl (by kernel_rfl) (by kernel_rfl) (by kernel_rfl) (fun _ _ _ h => h) (.inl ⟨by rfl, fun w2 hw2 => ?_⟩) ?_
        · clear hw2
          go_simp
        simp only [Act.put, List.setIfInBounds_toArray, List.set_cons_succ, List.set_cons_zero]
        refine anyM_take (i := 4) (oi := ⟨some 39, _, _, _, _, _⟩) (v := .slice (A i) (L i) (C i)) rfl (by kernel_rfl) (by kernel_rfl) (by kernel_rfl) (fun _ _ _ h => h) (.inl ⟨by rfl, fun w2 hw2 => ?_⟩) ?_
        · have pc := PC.out w2 (ext_below hw2 (Below.refl _ _).drew (Nat.le_refl _))
          clear hw2
          go_simp
        simp only [Act.put, List.setIfInBounds_toArray, List.set_cons_succ, List.set_cons_zero]
        refine anyM_take (i := 5) (oi := ⟨some 40, _, _, _, _, _⟩) (v := .slice (some ⟨pb, po, none⟩) n c) rfl (by kernel_rfl) (by kernel_rfl) (by kernel_rfl) (fun _ _ _ h => h) (.inl ⟨by rfl, fun w2 hw2 => ?_⟩) ?_
        · clear hw2
          go_simp
        simp only [Act.put, List.setIfInBounds_toArray, List.set_cons_succ, List.set_cons_zero]
        refine anyM_take (i := 6) (oi := ⟨some 41, _, _, _, _, _⟩) (v := .int .i64 (i : Int)) rfl (by kernel_rfl) (by kernel_rfl) (by kernel_rfl) (fun _ _ _ h => h) (.inl ⟨by rfl, fun w2 hw2 => ?_⟩) ?_
        · clear hw2
          go_simp
        simp only [Act.put, List.setIfInBounds_toArray, List.set_cons_succ, List.set_cons_zero]
        refine anyM_take (i := 7) (oi := ⟨some 42, _, _, _, _, _⟩) (v := .pointer (some ⟨pb, po + i, none⟩)) rfl (by kernel_rfl) (by kernel_rfl) (by kernel_rfl) (fun _ _ _ h => h) (.inl ⟨by rfl, fun w2 hw2 => ?_⟩) ?_
        · clear hw2
          go_simp
        simp only [Act.put, List.setIfInBounds_toArray, List.set_cons_succ, List.set_cons_zero]
        refine anyM_take (i := 8) (oi := ⟨some 43, _, _, _, _, _⟩) (v := .slice (A i) (L i) (C i)) rfl (by kernel_rfl) (by kernel_rfl) (by kernel_rfl) (fun _ _ _ h => h) (.inl ⟨by rfl, fun w2 hw2 => ?_⟩) ?_
        · have pc := PC.out w2 (ext_below hw2 (Below.refl _ _).drew (Nat.le_refl _))
          clear hw2
          go_simp
        simp only [Act.put, List.setIfInBounds_toArray, List.set_cons_succ, List.set_cons_zero]
        refine anyM_take (i := 9) (oi := ⟨some 44, _, _, _, _, _⟩) (v := .int .i64 (L i : Int)) rfl (by kernel_rfl) (by kernel_rfl) (by kernel_rfl) (fun _ _ _ h => h) (.inl ⟨by rfl, fun w2 hw2 => ?_⟩) ?_
        · clear hw2
          go_simp
        simp only [Act.put, List.setIfInBounds_toArray, List.set_cons_succ, List.set_cons_zero]
        refine anyM_take (i := 10) (oi := ⟨some 45, _, _, _, _, _⟩) (v := .int .i64 (k : Int)) rfl (by kernel_rfl) (by kernel_rfl) (by kernel_rfl) (fun _ _ _ h => h) (.inl ⟨by rfl, fun w2 hw2 => ?_⟩) ?_
        · have hm := HM.out
          clear hw2
          go_simp
        simp only [Act.put, List.setIfInBounds_toArray, List.set_cons_succ, List.set_cons_zero]
        refine anyM_take (i := 11) (oi := ⟨some 46, _, _, _, _, _⟩) (v := .slice (A i) k (C i)) rfl (by kernel_rfl) (by kernel_rfl) (by kernel_rfl) (fun _ _ _ h => h) (.inl ⟨by rfl, fun w2 hw2 => ?_⟩) ?_
        · clear hw2
          go_simp
        simp only [Act.put, List.setIfInBounds_toArray, List.set_cons_succ, List.set_cons_zero]
        refine anyM_only (i := 0) (o := ⟨some 35, _, _, _, _, _⟩) (by kernel_rfl) rfl (by rfl) (fun w2 hw2 => ⟨.slice (some ⟨w2.heap.size, 0, none⟩) 0 0, w2.alloc (.cells #[] 5), by go_simp, (Below.refl _ _).alloc (Nat.le_refl _) _, ?_⟩)
        simp only [Act.put, List.setIfInBounds_toArray, List.set_cons_succ, List.set_cons_zero]
        have b2 := ext_below hw2 (Below.refl wr.heap.size wr).drew (Nat.le_refl _)
        have o2 := Own.empty (B := wr.heap.size) (F i) w2 b2.size
        have b3 := Lib.hid (b2.alloc b2.size (.cells #[] 5))
        have O2 := Lib.hid o2
        clear hw2 b2 o2
        generalize w2.heap.size = Q at *
        generalize w2.alloc _ = w3 at *
        refine anyM_only (i := 12) (o := ⟨some 47, _, _, _, _, _⟩) (by kernel_rfl) rfl (by rfl) (fun w4 hw4 => ?_)
        have b4 := ext_below hw4 b3.out b3.out.size
        refine exec_fresh_then _ _ 22 rfl rfl rfl (O2.out.later hw4) (src_in (bytesIn_ext BI.out b4) (C i)) (by omega) ?_
        intro v5 w5 o5 b5
        simp only [Act.put, List.setIfInBounds_toArray, List.set_cons_succ, List.set_cons_zero]
        have b6 := Lib.hid (b4.trans (b5.mono b4.size))
        have O5 := Lib.hid o5
        clear o5 b5 b4 hw4 b3 O2
        refine anyM_take (i := 13) (oi := ⟨some 6, _, _, _, _, _⟩) (v := v5) rfl (by kernel_rfl) (by kernel_rfl) (by kernel_rfl) (fun _ _ _ h => h) (.inl ⟨by rfl, fun w2 hw2 => ?_⟩) ?_
        · clear hw2
          go_simp
        simp only [Act.put, List.setIfInBounds_toArray, List.set_cons_succ, List.set_cons_zero]
        refine anyM_done (by kernel_rfl) (fun w7 hw7 => ?_)
        have b7 := ext_below hw7 b6.out b6.out.size
        have O7 := O5.out.later hw7
        clear hw7
        go_wp2_with fail
        go_meet
        exact ⟨O7, b7⟩
      obtain ⟨o6, b6⟩ := hcut
      obtain ⟨a6, c6, rfl, hkc6, hc6m, bi6, hB6, hg6⟩ := o6.asMine
      obtain ⟨a4, c4, rfl, _, _, bi4, hB4, _⟩ := OW.out.asMine
      have hwc := b6.size
      have TB := Lib.hid (TK.out.later (BEL.out.trans (b6.mono hbr)))
      have BW := Lib.hid (BEL.out.trans (b6.mono hbr))
      have W1 := Lib.hid (write_any x N k c6 f (F i) a6 wc TB.out (by omega) (ST.out.later b6) bi6 hkc6 hc6m (fun _ y hy => by have := hB6 y hy; omega) (by omega))
      have O4 := Lib.hid (OW.out.later b6)
      have O6 := Lib.hid o6
      have HG6 := Lib.hid hg6
      have HB6 := Lib.hid hB6
      have HB4 := Lib.hid hB4
      have A4B : Hid (∀ y, a4 = some y → y.block < wr.heap.size) := Lib.hid (fun y hy => by
        have := OW.out.lt (k := y.block) (by rw [hy]; rfl)
        exact this.2)
      have hXC : x < wc.heap.size := by omega
      clear o6 b6 bi6 bi4 hg6 hB6 hB4 ST OW BEL PC BI HK
      go_wp2_with fail
      with_reducible refine W1.out.mono ?_
      rintro e w7 ⟨rfl, st7, ch7⟩
      have B7 := Lib.hid (BW.out.trans (ch7.below (by omega) BW.out.size))
      have O47 := Lib.hid (O4.out.chg ch7 (O4.out.off (by omega)))
      have O67 := Lib.hid (O6.out.chg ch7 (O6.out.off (by omega)))
      have S7 := Lib.hid st7
      have bi7 : BytesIn w7 a6 k (F i) := by
        obtain ⟨a', c', e, _, _, bi, _⟩ := O67.out.asMine
        injection e with e1 e2 e3
        rw [← e1] at bi
        exact bi
      have SRC := Lib.hid (src_in bi7 c6)
      have h7 := ch7.size
      clear st7 ch7 W1 O4 O6 TB BW bi7
      go_upto_region 12 with (first
        | (at_builtin; refine wpList_append_bytes_g (o := ⟨some 53, _, _, _, _, _⟩) (by rfl) _ _ 22 (by rfl) (by rfl) (by rfl) O47.out SRC.out (by omega) ?_; intro v8 w8 o8 g8)
        | fail)
      have hoff4 := O47.out.off (x := x) (by omega)
      have A8 : x < w8.heap.size ∧ HashSt w8 x (joinb f N (F i)) (N + k) := by
        refine ⟨Nat.lt_of_lt_of_le (by omega) g8.grown.size, ?_⟩
        obtain ⟨v, g, r1, r2, r3⟩ := S7.out
        exact ⟨v, g, by unfold HashRow at *; rw [g8.block (by omega) hoff4]; exact r1, r2, r3⟩
      have bw8 : Below w.heap.size w w8 := B7.out.trans ((g8.below O47.out).mono (by omega))
      -- p's own block, or none
      obtain ⟨y, hyB, hy8, hyk⟩ : ∃ y, wr.heap.size ≤ y ∧ v8.ownBlock ≠ some y ∧ (0 < k → a6 = some ⟨y, 0, none⟩ ∧ ∃ cur, w8.heap[y]? = some (.cells cur 5 (0, 0)) ∧ k ≤ cur.size) := by
        by_cases hk0 : 0 < k
        · obtain ⟨a', c', e, _, _, _, hB, hg⟩ := O67.out.asMine
          injection e with e1 e2 e3
          rw [← e1] at hB hg
          obtain ⟨g, cur, e4, hcur, hks⟩ := hg hk0
          have hgB := hB _ e4
          have hgB' : wr.heap.size ≤ g := hgB
          have hne : (Value.slice a4 N c4).ownBlock ≠ some g := fun e5 => by
            cases a4 with
            | none => cases e5
            | some y4 =>
              have h1 := A4B.out y4 rfl
              have e6 : some y4.block = some g := e5
              injection e6 with e6
              omega
          refine ⟨g, hgB', ?_, fun _ => ⟨e4, cur, by rw [g8.block (lt_row hcur) hne]; exact hcur, hks⟩⟩
          rcases g8.blk with e7 | ⟨j, e7, hj⟩
          · rw [e7]; exact hne
          · rw [e7]; intro e8; injection e8 with e8; have := lt_row hcur; omega
        · refine ⟨w8.heap.size, by have := g8.grown.size; omega, fun e => ?_, fun h => absurd h hk0⟩
          have := (o8.lt e).2
          omega
      have H8 := Lib.hid A8.2
      have hx8 := A8.1
      have O8 := Lib.hid o8
      have BW8 := Lib.hid bw8
      have HY8 := Lib.hid hy8
      have HYK := Lib.hid hyk
      have hxy : x ≠ y := by omega
      have hy1 : w.heap.size ≤ y := by omega
      have h78 := g8.grown.size
      clear o8 g8 A8 bw8 hy8 hyk hoff4 S7 B7 O47 O67 SRC A4B HB6 HB4 HG6
      go_wp2_with fail
      go_loopw [7] (fun s7 wr => ∃ kk : Nat, kk ≤ k ∧ s7 = .int .i64 (kk : Int) ∧ Chg y w8 wr ∧ (0 < k → ∃ cur, wr.heap[y]? = some (.cells cur 5 (0, 0)) ∧ k ≤ cur.size)) (fun s7 _ => k - (intOf s7).toNat)
      case atStart => exact ⟨0, Nat.zero_le _, rfl, Chg.refl _ _, fun h => (HYK.out h).2⟩
      case round =>
        obtain ⟨kk, hkk, rfl, chz, hcz⟩ := hrel
        have CZ := Lib.hid chz
        have HCZ := Lib.hid hcz
        clear chz hcz
        by_cases hkl : kk < k
        · have hkI : (kk : Int) < (k : Int) := by omega
          obtain ⟨ea6, _⟩ := HYK.out (by omega)
          obtain ⟨cur, hcur, hcs⟩ := HCZ.out (by omega)
          subst ea6
          have kc : ∃ u, wr.cell? ⟨y, kk, none⟩ = some u := ⟨_, by rw [cell_of_row _ _ _ _ _ _ hcur]; exact Array.getElem?_eq_getElem (by omega)⟩
          obtain ⟨u0, kc⟩ := kc
          have fz : wr.frozen? ⟨y, kk, none⟩ = false := frozen_of_row _ _ _ _ _ hcur
          have QS := Lib.hid (rowSet_cell wr y kk 5 _ (.int .u8 95) hcur)
          clear hcur
          go_wp2_with fail
          go_roundw
          case rel =>
            exact ⟨kk + 1, by omega, by go_num, CZ.out.trans QS.out.chg, fun _ => ⟨_, QS.out.row, by rw [Array.size_setIfInBounds]; exact hcs⟩⟩
          case measure => (simp [intOf] <;> omega)
        · obtain rfl : kk = k := by omega
          have hz9 := CZ.out.size
          have H9 := Lib.hid (H8.out.chg CZ.out hxy)
          have O9 := Lib.hid (O8.out.chg CZ.out HY8.out)
          have BW9 := Lib.hid (BW8.out.trans (CZ.out.below hy1 BW8.out.size))
          clear H8 O8 BW8 CZ HCZ HYK HY8
          obtain ⟨a9, c9, rfl, hc9, hm9, bi9, _⟩ := O9.out.asMine
          have SM9 := Lib.hid (sum_any (some ⟨x, 0, none⟩) (N + kk) _ wr (TK.out.later BW9.out) (.inr ⟨x, rfl, H9.out⟩) (by omega))
          go_wp2_with fail
          with_reducible refine SM9.out.mono ?_
          rintro e w10 ⟨rfl, hb10⟩
          obtain ⟨SMM, hSMM⟩ : ∃ S, sumB kW startW (joinb f N (F i)) (N + kk) = S := ⟨_, rfl⟩
          simp only [hSMM]
          have HSM := Lib.hid hSMM
          clear hSMM SM9
          have hal : Below w10.heap.size w10 (w10.alloc (.cells (bytesA SMM 32) 24)) := (Below.refl _ _).alloc (Nat.le_refl _) _
          have hal2 : (w10.alloc (.cells (bytesA SMM 32) 24)).heap[w10.heap.size]? = some (.cells (bytesA SMM 32) 24 (0, 0)) := heap_alloc_last _ _
          go_upto_region 17 with (first
            | (refine wpList_alloc_row (o := ⟨some 8, .alloc 24, _, _, _, _⟩) rfl 24 rfl _ zero_32 ?_)
            | (refine wpList_store_new (o := ⟨none, .store 24 (.tmp 8) (.tmp 64), _, _, _, _⟩) rfl 24 _ _ rfl (bytesA (fun _ => 0#8) 32) (bytesA SMM 32) _ rfl rfl rfl (by rw [bytesA_size]; kernel_rfl) (by rw [bytesA_size, bytesA_size]) (bytesA_one _ _) ?_))
          obtain ⟨w11, hw11⟩ : ∃ w11, w10.alloc (.cells (bytesA SMM 32) 24) = w11 := ⟨_, rfl⟩
          rw [hw11] at hal hal2
          simp only [hw11]
          have E11 := hb10.trans (hal.mono hb10.size)
          obtain ⟨s8, hs8⟩ : ∃ s8, w10.heap.size = s8 := ⟨_, rfl⟩
          rw [hs8] at hal2
          simp only [hs8]
          have B11 := BW9.out.trans (E11.mono BW9.out.size)
          have SU := Lib.hid (fun (w' : World) (hb : Below w11.heap.size w11 w') => (show Calls Tryd.prog 10 #[.slice a9 (N + kk) c9] w' fun e w'' => e = .returned (.agg (bytesA SMM 32)) ∧ Below w'.heap.size w' w'' by
            have h := shaSum_any (N + kk) c9 (joinb f N (F i)) a9 w' (TK.out.later (B11.trans (hb.mono B11.size))) (bytesIn_ext (bytesIn_ext bi9 E11) hb) hc9 hm9 (by omega)
            rw [show sumS (joinb f N (F i)) (N + kk) = SMM from HSM.out] at h
            exact h))
          have SX := Lib.hid (fun (w' : World) (hb : Below w11.heap.size w11 w') => (show Calls Tryd.prog 17 #[.pointer (some ⟨x, 0, none⟩)] w' fun e w'' => e = .returned (.agg (bytesA SMM 32)) ∧ Below w'.heap.size w' w'' by
            have h := sum_any (some ⟨x, 0, none⟩) (N + kk) (joinb f N (F i)) w' (TK.out.later (B11.trans (hb.mono B11.size))) (.inr ⟨x, rfl, (H9.out.later E11).later hb⟩) (by omega)
            rw [HSM.out] at h
            exact h))
          have LX := Lib.hid (fun (w' : World) (hb : Below w11.heap.size w11 w') => len_any x (N + kk) (joinb f N (F i)) w' ((H9.out.later E11).later hb) (by omega))
          have RS := Lib.hid hal2
          have O11 := Lib.hid (O9.out.later E11)
          have H11 := Lib.hid (H9.out.later E11)
          have B11' := Lib.hid B11
          clear hal hal2 hw11 hs8 E11 B11 hb10 bi9 H9 O9 BW9
          clear w10
          refine region_class1 16 (fun w' => Below w11.heap.size w11 w') mixedOrders (by kernel_rfl) (Below.refl _ _).drew rfl ?_
          refine wpQuiet_take (by rfl) (fun K hK => ⟨.agg (bytesA SMM 32), fun w2' hw2 => ?_, hK _ ?_⟩)
          · exact quietAt_run (quiet_load (load_row32 ((hw2.block s8 (lt_row RS.out)).trans RS.out)))
          clear hK K
          simp only [Act.put, List.setIfInBounds_toArray, List.set_cons_succ, List.set_cons_zero]
          refine wpQuiet_take (by rfl) (fun K hK => ⟨.slice a9 (N + kk) c9, fun w2' hw2 => ?_, hK _ ?_⟩)
          · clear hw2; go_simp
          clear hK K
          simp only [Act.put, List.setIfInBounds_toArray, List.set_cons_succ, List.set_cons_zero]
          refine wpQuiet_take (by rfl) (fun K hK => ⟨.agg (bytesA SMM 32), fun w2' hw2 => ?_, hK _ ?_⟩)
          · go_simp
            go_at_call 10
            with_reducible refine (SU.out w2' hw2).mono ?_
            rintro e w12 ⟨rfl, hb12⟩
            exact ⟨rfl, hw2.trans (hb12.mono hw2.size)⟩
          clear hK K
          simp only [Act.put, List.setIfInBounds_toArray, List.set_cons_succ, List.set_cons_zero]
          refine wpQuiet_take (by rfl) (fun K hK => ⟨.bool false, fun w2' hw2 => ?_, hK _ ?_⟩)
          · have e1 := eq32_same SMM w2'
            clear hw2; go_simp
          clear hK K
          simp only [Act.put, List.setIfInBounds_toArray, List.set_cons_succ, List.set_cons_zero]
          refine wpQuiet_take (by rfl) (fun K hK => ⟨.bool false, fun w2' hw2 => ?_, hK _ ?_⟩)
          · clear hw2; go_simp
          clear hK K
          simp only [Act.put, List.setIfInBounds_toArray, List.set_cons_succ, List.set_cons_zero]
          refine wpQuiet_take (by rfl) (fun K hK => ⟨.pointer (some ⟨x, 0, none⟩), fun w2' hw2 => ?_, hK _ ?_⟩)
          · clear hw2; go_simp
          clear hK K
          simp only [Act.put, List.setIfInBounds_toArray, List.set_cons_succ, List.set_cons_zero]
          refine wpQuiet_take (by rfl) (fun K hK => ⟨.int .i64 ((N + kk : Nat) : Int), fun w2' hw2 => ?_, hK _ ?_⟩)
          · go_simp
            go_at_call 16
            with_reducible refine (LX.out w2' hw2).mono ?_
            rintro e w12 ⟨rfl, rfl⟩
            exact ⟨rfl, hw2⟩
          clear hK K
          simp only [Act.put, List.setIfInBounds_toArray, List.set_cons_succ, List.set_cons_zero]
          refine wpQuiet_take (by rfl) (fun K hK => ⟨.slice a9 (N + kk) c9, fun w2' hw2 => ?_, hK _ ?_⟩)
          · clear hw2; go_simp
          clear hK K
          simp only [Act.put, List.setIfInBounds_toArray, List.set_cons_succ, List.set_cons_zero]
          refine wpQuiet_take (by rfl) (fun K hK => ⟨.int .i64 ((N + kk : Nat) : Int), fun w2' hw2 => ?_, hK _ ?_⟩)
          · clear hw2; go_simp
          clear hK K
          simp only [Act.put, List.setIfInBounds_toArray, List.set_cons_succ, List.set_cons_zero]
          refine wpQuiet_take (by rfl) (fun K hK => ⟨.bool false, fun w2' hw2 => ?_, hK _ ?_⟩)
          · clear hw2; go_simp
          clear hK K
          simp only [Act.put, List.setIfInBounds_toArray, List.set_cons_succ, List.set_cons_zero]
          refine wpQuiet_take (by rfl) (fun K hK => ⟨.bool false, fun w2' hw2 => ?_, hK _ ?_⟩)
          · clear hw2; go_simp
          clear hK K
          simp only [Act.put, List.setIfInBounds_toArray, List.set_cons_succ, List.set_cons_zero]
          refine wpQuiet_take (by rfl) (fun K hK => ⟨.bool false, fun w2' hw2 => ?_, hK _ ?_⟩)
          · clear hw2; go_simp
          clear hK K
          simp only [Act.put, List.setIfInBounds_toArray, List.set_cons_succ, List.set_cons_zero]
          refine wpQuiet_take (by rfl) (fun K hK => ⟨.pointer (some ⟨x, 0, none⟩), fun w2' hw2 => ?_, hK _ ?_⟩)
          · clear hw2; go_simp
          clear hK K
          simp only [Act.put, List.setIfInBounds_toArray, List.set_cons_succ, List.set_cons_zero]
          refine wpQuiet_take (by rfl) (fun K hK => ⟨.agg (bytesA SMM 32), fun w2' hw2 => ?_, hK _ ?_⟩)
          · go_simp
            go_at_call 17
            with_reducible refine (SX.out w2' hw2).mono ?_
            rintro e w12 ⟨rfl, hb12⟩
            exact ⟨rfl, hw2.trans (hb12.mono hw2.size)⟩
          clear hK K
          simp only [Act.put, List.setIfInBounds_toArray, List.set_cons_succ, List.set_cons_zero]
          refine wpQuiet_take (by rfl) (fun K hK => ⟨.agg (bytesA SMM 32), fun w2' hw2 => ?_, hK _ ?_⟩)
          · exact quietAt_run (quiet_load (load_row32 ((hw2.block s8 (lt_row RS.out)).trans RS.out)))
          clear hK K
          simp only [Act.put, List.setIfInBounds_toArray, List.set_cons_succ, List.set_cons_zero]
          refine wpQuiet_take (by rfl) (fun K hK => ⟨.bool false, fun w2' hw2 => ?_, hK _ ?_⟩)
          · have e1 := eq32_same SMM w2'
            clear hw2; go_simp
          clear hK K
          simp only [Act.put, List.setIfInBounds_toArray, List.set_cons_succ, List.set_cons_zero]
          refine wpQuiet_take0 ?_
          intro w13 hb13
          have B13 := Lib.hid (B11'.out.trans (hb13.mono B11'.out.size))
          have O13 := Lib.hid (O11.out.later hb13)
          have H13 := Lib.hid (H11.out.later hb13)
          clear hb13 SU SX LX RS O11 H11 B11' HSM
          go_wp2_with fail
          go_roundw
          case rel =>
            exact ⟨i + 1, N + kk, joinb f N (F i), by omega, by omega, by go_num, by omega, H13.out, O13.out, B13.out⟩
          case measure => (simp [intOf] <;> omega)
    · have B5 := Lib.hid BEL.out
      by_cases hnn : i < n
      · have hnI : (i : Int) < (n : Int) := by omega
        have h3I : ¬ (i : Int) < 30 := by omega
        go_wp2_with fail
        go_ret
        exact ⟨rfl, B5.out⟩
      · have hnI : ¬ (i : Int) < (n : Int) := by omega
        go_wp2_with fail
        go_ret
        exact ⟨rfl, B5.out⟩
set_option maxRecDepth 100000 in
theorem walk {H : Type} {enc : TypeId × Value → H} (w : World) (base : Nat) (v0 : Value) (d0 : DataW H) (p0 : List MemPlace)
    (k0 : Value.okWide Tryd.prog w .any base 31 v0) (h0 : DataW.Trod enc Tryd.prog w 0 (fun _ => true) true 31 v0 d0 p0) (tab : TabK w) :
    Calls Tryd.prog 5 #[v0] w fun e w' => e = .returned (.bool true) ∧ Below w.heap.size w w' := by
  obtain ⟨a, n, c, A, L, C, F, rfl, hp, hc, hm⟩ := open_parts k0 h0
  exact parts_any a n c A L C F w tab hp hc hm
set_option maxRecDepth 100000 in
theorem lifted (os : Os) (started : os.Started) (H : Type) (enc : TypeId × Value → H) :
    ReturnsInHanded {} Tryd.checked os 5 .any (fun w args => (Rows.shaPartsSpec.pre enc Tryd.prog Tryd.f5 [] false w args ∧ laidMetH Tryd.prog laids w) ∧ sizedMet enc Tryd.prog Tryd.f5 (OpenSpec.ofChange Rows.shaPartsSpec) false w args)
      (Rows.shaPartsSpec.post enc Tryd.prog Tryd.f5 false true false false) := by
  refine returnsInHanded_of_change_and (C := Tryd.checked) (X := fun w _ => laidMetH Tryd.prog laids w) (fun _ _ _ hh h => h.of_heap hh) own started (by kernel_rfl) Tryd.func5
    (ChangeSpec.witness_shaped (enc := enc) (C := Tryd.checked) (os := os) (X := fun w _ => laidMetH Tryd.prog laids w) false (World.doorLaid Tryd.prog 14 os) #[.slice none 0 0] 8 rfl (World.shaped_of_RefB (by kernel_rfl) (by kernel_rfl)) (by kernel_rfl) (by kernel_rfl) (by kernel_rfl) (door_met os _)) ?_
  intro W base args ds gs before hval0 hW _ _ hL _
  have hval : ∀ (j : Nat) t v, Tryd.f5.params[j]? = some t → args[j]? = some v → Value.okWide Tryd.prog W .any base t v := hval0
  have hW' := hW
  obtain ⟨p, q, hA0, hV, rfl, hfz, hnd⟩ := hW
  have hA : DataW.TrodAll enc Tryd.prog W 0 (fun _ => true) true Tryd.f5.params.toList args.toList ds p := hA0
  rw [Tryd.params5] at hA hval
  obtain ⟨v0, vs0, d0, ds0, p0, q0, hargs, rfl, rfl, h0, r0⟩ := trodAll_cons hA
  obtain ⟨rfl, rfl, rfl⟩ := trodAll_nil r0
  obtain rfl : args = #[v0] := by cases args; simp_all
  obtain ⟨rfl, rfl⟩ := trodVars_none hV
  have k0 := h0
  have lt0 : ∀ x ∈ p0, x.block < W.heap.size := by obtain ⟨m, hm⟩ := k0; exact DataW.trod_lt m _ _ _ hm
  clear hA0 hval0
  refine (walk W base v0 d0 p0 (hval 0 31 v0 rfl rfl) k0 (tabK_of_laid hL)).mono fun e W' ⟨he, bel⟩ => ?_
  subst he
  exact ⟨_, rfl, _, _, _, [], _, [], hW', trodAll_mk1 (shut_bool Tryd.underlying4 _), (trodAll_cons_mk (Below.trod laidOut (by kernel_rfl) (of_decide_eq_true (by kernel_rfl)) k0 bel lt0) trodAll_mk0), rfl, bel.frame _, fun h => by cases h⟩
theorem over : Rows.ShaPartsSaid :=
  OpenClaim.holds_of_wide 5 Tryd.f5 rfl rfl rfl rfl rfl rfl rfl ⟨rfl, rfl, rfl, rfl, rfl⟩ rfl rfl rfl rfl rfl (by kernel_rfl) Tryd.func5 (by kernel_rfl)
    (of_decide_eq_true (by kernel_rfl)) (by unfold Func.isWrapper; first | (rw [if_pos (by decide +kernel)]; kernel_rfl) | (rw [if_neg (by decide +kernel)]; exact ⟨rfl, rfl⟩))
    (fun os started H enc _ => lifted os started H enc)
theorem proved : Rows.ShaPartsCardSaid :=
  Claim7.holds_tied_plain_at .later [] [.data] true (true, "087e57aef0719291e6b76ce2e7e1cc2c8340e26022a027d6faef561ff8c63583") false
    over (fun _ h => by cases h) (by kernel_rfl) (fun _ h => by cases h) shaParts_row_tie rfl ⟨rfl, rfl⟩ (by kernel_rfl) rfl
    (fun f fn hf hfn => by
      obtain rfl : f = 5 := Option.some.inj ((show Tryd.prog.funcNamed "rhyne/rhynelaw01.ShaParts" = some 5 by kernel_rfl).symm.trans hf) |>.symm
      obtain rfl : fn = Tryd.f5 := (Option.some.inj (Tryd.func5.symm.trans hfn)).symm
      exact ⟨by kernel_rfl, fun j t ht => by
        rw [Tryd.params5] at ht
        have hm : t ∈ [31] := by simpa using Array.mem_of_getElem? ht
        have hall : ([31].all fun u => !Tryd.prog.wantsStandIn u) = true := by kernel_rfl
        exact (show Tryd.prog.wantsStandIn t = false by simpa using List.all_eq_true.1 hall t hm)⟩)
    (by kernel_rfl)
end Go.Proofs.YtcdgpnfiimlnbaaDoor.shaParts
