/-
  THE DOCUMENT'S ANSWER FOR aes, FOURTH PART: a key made ready.
-/
import Derived.Test.YtjbpjoondmcnlabDoorRefC
import Derived.Test.YtjbpjoondmcnlabDoorMg27
import Derived.Test.YtjbpjoondmcnlabDoorMg04
import Derived.Test.YtjbpjoondmcnlabDoorMg22
import Derived.Laws.CopyRow
import Derived.Deep.RegionHeld3
import Derived.Deep.DeepCutAuto
set_option maxRecDepth 100000
namespace Go.Proofs.YtjbpjoondmcnlabDoor
open Go Go.RowKit Go.BigFrame
set_option maxRecDepth 100000
/-- A Key's cells: the table, and the bytes f. -/
def keyF (f : Nat → BitVec 8) (i : Nat) : BitVec 8 := if i < 256 then sbox i else f (i - 256)
theorem MyRow.setAll {w0 w : World} {q n : Nat} {T : TypeId} {f : Nat → BitVec 8} (h : MyRow w0 q n T f w) (g : Nat → BitVec 8) : MyRow w0 q n T g (w.setRow q (bytesArr g n)) :=
  ⟨h.below.trans ⟨rfl, rfl, rfl, by simp, fun k hk => setRow_other _ _ _ _ (by have := h.new; omega)⟩, setRow_heap _ _ _ _ _ _ h.row, h.new⟩
theorem str_cells (f : Nat → BitVec 8) (n : Nat) : List.take n (List.map (fun b => Value.int .u8 (b.toNat : Int)) (strOf f n).data.toList) = firsts f n := by
  unfold strOf strL firsts
  rw [List.take_of_length_le (by simp)]
  simp [n8_u8]
theorem run_copy_str (f : Nat → BitVec 8) (n g o dLen dCap : Nat) (h : n ≤ dLen) (c : Nat → BitVec 8) (m : Nat) (t : TypeId) (w : World) (hg : w.heap[g]? = some (.cells (bytesArr c m) t (0, 0))) (hfit : o + n ≤ m) :
    (Builtin.copy_ #[31, 9] 3 #[.slice (some ⟨g, o, none⟩) dLen dCap, .string (strOf f n)]).run Tryd.prog w =
      .ok (goInt n) (w.setRow g (bytesArr (fun i => if o ≤ i ∧ i < o + n then f (i - o) else c i) m)) := by
  have hu : Tryd.prog.underlying 31 = some (.slice 5) := by kernel_rfl
  have hst := run_storeCells_at Tryd.prog g o t (firsts f n) 0 (bytesArr c m) w hg (by rw [firsts_len, bytesArr_size]; omega) (fun u hu => by
    obtain ⟨j, _, rfl⟩ := List.mem_map.1 hu
    rfl)
  have hn : Nat.min n dLen = n := Nat.min_eq_left h
  have e : ((bytesArr c m).toList.take (o + 0) ++ firsts f n ++ (bytesArr c m).toList.drop (o + 0 + (firsts f n).length)).toArray = bytesArr (fun i => if o ≤ i ∧ i < o + n then f (i - o) else c i) m := by
    apply Array.ext_getElem?
    intro i
    rw [firsts_len, Nat.add_zero]
    have ht : ((bytesArr c m).toList.take o).length = o := by simp [bytesArr]; omega
    rw [List.getElem?_toArray, List.append_assoc]
    by_cases h1 : i < o
    · rw [List.getElem?_append_left (by rw [ht]; exact h1)]
      have : i < m := by omega
      have h2 : ¬ o ≤ i := by omega
      simp [bytesArr, h1, this, h2]
    · rw [List.getElem?_append_right (by rw [ht]; omega), ht]
      by_cases h2 : i < o + n
      · rw [List.getElem?_append_left (by rw [firsts_len]; omega)]
        have h3 : i < m := by omega
        have h4 : i - o < n := by omega
        have h5 : o ≤ i := by omega
        simp [bytesArr, firsts, h2, h3, h4, h5]
      · rw [List.getElem?_append_right (by rw [firsts_len]; omega), firsts_len, List.getElem?_drop, show o + n + (i - o - n) = i by omega]
        by_cases h3 : i < m
        · simp [bytesArr, h2, h3]
        · simp [bytesArr, h3]
  rw [e] at hst
  have hi0 := info_u8
  cases hq : Tryd.prog.info? 5 with
  | none => simp [hq] at hi0
  | some i =>
    have hi : i.size = 1 := by simp [hq] at hi0; exact hi0.2.1
    simp [Builtin.copy_, run_underlying hu, Builtin.lenOf, Builtin.firstCells, sizeOf, typeInfo, hq, strOf_size, hn, str_cells, hst]
set_option maxHeartbeats 4000000 in
set_option maxRecDepth 100000 in
theorem readyR_any (b : Nat → BitVec 8) (w : World) :
    Calls Tryd.prog 43 #[.string (strOf b 16)] w fun e w' => ∃ p, e = .returned (.pointer (some ⟨p, 0, none⟩)) ∧ MyRow w p 432 110 (keyF (kbyte b)) w' := by
  go_enter Tryd.func43, Tryd.ntmps43
  go_wp2_with fail
  refine (table_any _).mono ?_
  rintro e w1 ⟨rfl, hb1⟩
  have cp := run_copy_str b 16 w1.heap.size 256 176 176 (by omega) (keyF (fun _ => 0#8)) 432 110 (w1.alloc (.cells (bytesArr (keyF (fun _ => 0#8)) 432) 110)) (heap_alloc_last _ _) (by omega)
  go_wp2_with (refine wpList_run (o := ⟨some 9, .build 110 _, _, _, _, _⟩) (v := .agg (bytesArr (keyF (fun _ => 0#8)) 432)) (w' := w1) rfl (by kernel_rfl) ?_)
  have st0 : MyRow w w1.heap.size 432 110 (keyF (fun _ => 0#8)) (w1.alloc (.cells (bytesArr (keyF (fun _ => 0#8)) 432) 110)) :=
    ⟨hb1.alloc hb1.size _, heap_alloc_last _ _, hb1.size⟩
  have st1 := st0.setAll (keyF (fun i => if i < 16 then b i else 0#8))
  have hc : (fun i => if 256 ≤ i ∧ i < 256 + 16 then b (i - 256) else keyF (fun _ => 0#8) i) = keyF (fun i => if i < 16 then b i else 0#8) := by
    funext i
    unfold keyF
    by_cases h1 : i < 256
    · simp [h1, show ¬ 256 ≤ i by omega]
    · by_cases h2 : i < 256 + 16
      · simp [h1, show 256 ≤ i by omega, h2, show i - 256 < 16 by omega]
      · simp [h1, h2, show ¬ i - 256 < 16 by omega]
  simp only [hc, Nat.reduceAdd] at *
  clear cp st0 hc
  generalize w1.heap.size = p at *
  generalize World.setRow _ _ _ = wa at *
  clear hb1 w1
  go_loopw [4, 5] (fun s4 s5 wr => ∃ (m : Nat) (f : Nat → BitVec 8), 4 ≤ m ∧ m ≤ 44 ∧ s5 = .int .i64 (((4 * m - 16 : Nat) : Int) + 16) ∧ s4 = .int .u8 (n8 (rcon ((m + 3) / 4 - 1))) ∧ (∀ i, i < 4 * m → f i = kbyte b i) ∧ MyRow w p 432 110 (keyF f) wr)
    (fun _ s5 _ => 176 - (intOf s5).toNat)
  case atStart =>
    refine ⟨4, _, by omega, by omega, rfl, ?_, fun i hi => ?_, st1⟩
    · show _ = Value.int .u8 (n8 1#8)
      rw [n8_nat]; rfl
    · rw [if_pos (by omega), kbyte_first _ _ (by omega)]
  case round =>
    clear st1
    obtain ⟨m, f, hm4, hm, rfl, rfl, hf, st⟩ := hrel
    by_cases hlt : m < 44
    · generalize hn : 4 * m - 16 = n at *
      have hnI : (n : Int) + 16 < 176 := by omega
      have b0 : (n : Int) + 12 < 176 := by omega
      have b1 : (n : Int) + 13 < 176 := by omega
      have b2 : (n : Int) + 14 < 176 := by omega
      have b3 : (n : Int) + 15 < 176 := by omega
      have a0 : (0 : Int) ≤ (n : Int) + 12 := by omega
      have a1 : (0 : Int) ≤ (n : Int) + 13 := by omega
      have a2 : (0 : Int) ≤ (n : Int) + 14 := by omega
      have a3 : (0 : Int) ≤ (n : Int) + 15 := by omega
      have w0 : IntKind.i64.wrap ((n : Int) + 16 - 4) = (n : Int) + 12 := by rw [IntKind.wrap_i64]; omega
      have w1 : IntKind.i64.wrap ((n : Int) + 16 - 3) = (n : Int) + 13 := by rw [IntKind.wrap_i64]; omega
      have w2 : IntKind.i64.wrap ((n : Int) + 16 - 2) = (n : Int) + 14 := by rw [IntKind.wrap_i64]; omega
      have w3 : IntKind.i64.wrap ((n : Int) + 16 - 1) = (n : Int) + 15 := by rw [IntKind.wrap_i64]; omega
      have t0 : ((n : Int) + 12).toNat = n + 12 := by omega
      have t1 : ((n : Int) + 13).toNat = n + 13 := by omega
      have t2 : ((n : Int) + 14).toNat = n + 14 := by omega
      have t3 : ((n : Int) + 15).toNat = n + 15 := by omega
      have k0 : ∀ j, j < 4 → keyF f (256 + (n + 12 + j)) = wb (sched b (m - 1)) j := fun j hj => by
        unfold keyF
        rw [if_neg (by omega), show 256 + (n + 12 + j) - 256 = 4 * (m - 1) + j by omega, hf _ (by omega), kbyte_word _ _ _ hj]
      have c0 := st.at (256 + (n + 12)) (by omega)
      have c1 := st.at (256 + (n + 13)) (by omega)
      have c2 := st.at (256 + (n + 14)) (by omega)
      have c3 := st.at (256 + (n + 15)) (by omega)
      rw [show keyF f (256 + (n + 12)) = _ from k0 0 (by omega)] at c0
      rw [show keyF f (256 + (n + 13)) = _ from k0 1 (by omega)] at c1
      rw [show keyF f (256 + (n + 14)) = _ from k0 2 (by omega)] at c2
      rw [show keyF f (256 + (n + 15)) = _ from k0 3 (by omega)] at c3
      generalize hv0 : wb (sched b (m - 1)) 0 = v0 at c0
      generalize hv1 : wb (sched b (m - 1)) 1 = v1 at c1
      generalize hv2 : wb (sched b (m - 1)) 2 = v2 at c2
      generalize hv3 : wb (sched b (m - 1)) 3 = v3 at c3
      clear k0
      have KC := fun (o : Obj) (j : Nat) => (show (wr.alloc o).drew.cell? ⟨p, j, none⟩ = wr.cell? ⟨p, j, none⟩ from ((Below.refl wr.heap.size wr).alloc (Nat.le_refl _) o).cell (p := ⟨p, j, none⟩) (lt_of_heap st.row))
      go_wp2_with fail
      go_region_held3 (fun w' => w'.cell? ⟨p, 256 + (n + 12), none⟩ = some (.int .u8 (n8 v0)) ∧ w'.cell? ⟨p, 256 + (n + 13), none⟩ = some (.int .u8 (n8 v1)) ∧ w'.cell? ⟨p, 256 + (n + 14), none⟩ = some (.int .u8 (n8 v2)) ∧ w'.cell? ⟨p, 256 + (n + 15), none⟩ = some (.int .u8 (n8 v3))) (first | exact ⟨c0, c1, c2, c3⟩ | exact ⟨(KC _ _).trans c0, (KC _ _).trans c1, (KC _ _).trans c2, (KC _ _).trans c3⟩) (first | fail)
      have st2 := st.later (((Below.refl wr.heap.size wr).alloc (Nat.le_refl _) (.cells #[.int .u8 (n8 v0), .int .u8 (n8 v1), .int .u8 (n8 v2), .int .u8 (n8 v3)] 111)).drew)
      have rowg : (wr.alloc (.cells #[.int .u8 (n8 v0), .int .u8 (n8 v1), .int .u8 (n8 v2), .int .u8 (n8 v3)] 111)).drew.heap[wr.heap.size]? = some (.cells #[.int .u8 (n8 v0), .int .u8 (n8 v1), .int .u8 (n8 v2), .int .u8 (n8 v3)] 111 (0, 0)) := heap_alloc_last _ _
      have hgp : wr.heap.size ≠ p := by have := lt_of_heap st.row; omega
      have hgw : w.heap.size ≤ wr.heap.size := st.below.size
      clear KC c0 c1 c2 c3 t0 t1 t2 t3 w0 w1 w2 w3 a0 a1 a2 a3 b0 b1 b2 b3 st
      generalize wr.heap.size = g at *
      generalize World.drew _ = wq at *
      clear wr
      have F := Lib.hid hf
      have V0 := Lib.hid hv0
      have V1 := Lib.hid hv1
      have V2 := Lib.hid hv2
      have V3 := Lib.hid hv3
      clear hf hv0 hv1 hv2 hv3
      go_step
      go_step
      go_step
      go_cut [4] (fun s4 wx => ∃ u : Nat → BitVec 8, s4 = .int .u8 (n8 (rcon ((m + 4) / 4 - 1))) ∧ (∀ j, j < 4 → u j = wbytes b m j) ∧ MyRow w p 432 110 (keyF f) wx ∧ wx.heap[g]? = some (.cells (bytesArr u 4) 111 (0, 0)))
      case first =>
        by_cases h16 : m % 4 = 0
        · have e16 : ((n : Int) + 16).tmod 16 = 0 := by
            rw [Int.tmod_eq_emod_of_nonneg (by omega)]
            omega
          have g0 : wq.drew.cell? ⟨g, 0, none⟩ = some (.int .u8 (n8 v0)) := (cell_of_row _ _ _ _ _ _ rowg : wq.cell? ⟨g, 0, none⟩ = _)
          have g1 : wq.drew.cell? ⟨g, 1, none⟩ = some (.int .u8 (n8 v1)) := (cell_of_row _ _ _ _ _ _ rowg : wq.cell? ⟨g, 1, none⟩ = _)
          have g2 : wq.drew.cell? ⟨g, 2, none⟩ = some (.int .u8 (n8 v2)) := (cell_of_row _ _ _ _ _ _ rowg : wq.cell? ⟨g, 2, none⟩ = _)
          have g3 : wq.drew.cell? ⟨g, 3, none⟩ = some (.int .u8 (n8 v3)) := (cell_of_row _ _ _ _ _ _ rowg : wq.cell? ⟨g, 3, none⟩ = _)
          have T : ∀ v : BitVec 8, wq.drew.cell? ⟨p, v.toNat, none⟩ = some (.int .u8 (n8 (sbox v.toNat))) ∧ n8 v < 256 ∧ 0 ≤ n8 v ∧ (n8 v).toNat = v.toNat := fun v => by
            have h := st2.at v.toNat (by have := v.isLt; omega)
            rw [keyF, if_pos v.isLt] at h
            refine ⟨h, ?_, ?_, ?_⟩ <;> rw [n8_nat]
            · have := v.isLt; omega
            · omega
            · rfl
          obtain ⟨q0, q1, q2, q3⟩ := T v0
          obtain ⟨r0, r1, r2, r3⟩ := T v1
          obtain ⟨s0, s1, s2, s3⟩ := T v2
          obtain ⟨t0, t1, t2, t3⟩ := T v3
          clear T
          go_wp2_with fail
          refine region_head 30 mixedOrders (by kernel_rfl) ?_
          simp only [List.take_succ_cons, List.take_zero, List.drop_succ_cons, List.drop_zero]
          repeat (go_big_quiet_step (fail))
          refine wpQuiet_nil ?_
          have Rowg := Lib.hid (show wq.drew.heap[g]? = _ from rowg)
          clear q0 q1 q2 q3 r0 r1 r2 r3 s0 s1 s2 s3 t0 t1 t2 t3 g0 g1 g2 g3 rowg
          refine wpList_run (v := .agg #[.int .u8 (n8 (sbox v1.toNat ^^^ rcon ((m + 3) / 4 - 1))), .int .u8 (n8 (sbox v2.toNat)), .int .u8 (n8 (sbox v3.toNat)), .int .u8 (n8 (sbox v0.toNat))]) (w' := wq.drew) rfl (by kernel_rfl) ?_
          simp only [Act.put, List.setIfInBounds_toArray, List.set_cons_succ, List.set_cons_zero]
          refine Go.wpList_store_row rfl 111 _ _ rfl g #[.int .u8 (n8 (sbox v1.toNat ^^^ rcon ((m + 3) / 4 - 1))), .int .u8 (n8 (sbox v2.toNat)), .int .u8 (n8 (sbox v3.toNat)), .int .u8 (n8 (sbox v0.toNat))] rfl rfl 111 _ Rowg.out (by kernel_rfl) rfl (by kernel_rfl) ?_
          simp only [Act.put]
          go_wp2_with (go_at_call 59; refine (twice_any _ _).mono ?_; rintro e w' ⟨rfl, rfl⟩)
          go_meet
          refine ⟨fun j => match j with | 0 => sbox v1.toNat ^^^ rcon ((m + 3) / 4 - 1) | 1 => sbox v2.toNat | 2 => sbox v3.toNat | _ => sbox v0.toNat, ?_, fun j hj => ?_, ?_, ?_⟩
          · rw [← rcon_twice, show (m + 4) / 4 - 1 = (m + 3) / 4 - 1 + 1 by omega]
          · unfold wbytes
            rw [if_pos h16, V0.out, V1.out, V2.out, V3.out, show m / 4 - 1 = (m + 3) / 4 - 1 by omega]
            match j, hj with
            | 0, _ => rfl
            | 1, _ => rfl
            | 2, _ => rfl
            | 3, _ => rfl
          · exact ⟨st2.below.drew.trans ⟨rfl, rfl, rfl, by simp, fun k hk => setRow_other _ _ _ _ (by omega)⟩, (setRow_other _ _ _ _ (Ne.symm hgp)).trans st2.row, st2.new⟩
          · exact setRow_heap _ _ _ _ _ _ Rowg.out
        · have e16 : ¬ ((n : Int) + 16).tmod 16 = 0 := by
            rw [Int.tmod_eq_emod_of_nonneg (by omega)]
            omega
          have e16' : (((n : Int) + 16).tmod 16 == 0) = false := beq_eq_false_iff_ne.2 e16
          go_wp2_with fail
          go_meet
          refine ⟨fun j => match j with | 0 => v0 | 1 => v1 | 2 => v2 | _ => v3, ?_, fun j hj => ?_, st2, ?_⟩
          · rw [show (m + 4) / 4 - 1 = (m + 3) / 4 - 1 by omega]
          · unfold wbytes
            rw [if_neg h16]
            match j, hj with
            | 0, _ => exact V0.out.symm
            | 1, _ => exact V1.out.symm
            | 2, _ => exact V2.out.symm
            | 3, _ => exact V3.out.symm
          · exact rowg
      case rest =>
        obtain ⟨u, rfl, hu, st3, rowg3⟩ := hcut
        go_wp2_with fail
        go_loopw [7] (fun s7 wr => ∃ (j : Nat) (f' : Nat → BitVec 8), j ≤ 4 ∧ s7 = .int .i64 (j : Int) ∧ (∀ i, i < 4 * m + j → f' i = kbyte b i) ∧ MyRow w p 432 110 (keyF f') wr ∧ wr.heap[g]? = some (.cells (bytesArr u 4) 111 (0, 0)))
          (fun s7 _ => 4 - (intOf s7).toNat)
        case atStart => exact ⟨0, f, by omega, rfl, F.out, st3, rowg3⟩
        case round =>
          clear st3 rowg3 st2 rowg
          obtain ⟨j, f', hj, rfl, hf', st4, rowg4⟩ := hrel
          by_cases hj4 : j < 4
          · have hjI : (j : Int) < 4 := by omega
            have w0 : IntKind.i64.wrap ((n : Int) + 16 + (j : Int)) = (n : Int) + 16 + (j : Int) := by rw [IntKind.wrap_i64]; omega
            have w1 : IntKind.i64.wrap ((n : Int) + 16 + (j : Int) - 16) = (n : Int) + (j : Int) := by rw [IntKind.wrap_i64]; omega
            have t0 : ((n : Int) + (j : Int)).toNat = n + j := by omega
            have t1 : ((n : Int) + 16 + (j : Int)).toNat = n + 16 + j := by omega
            have a0 : (0 : Int) ≤ (n : Int) + (j : Int) := by omega
            have a1 : (0 : Int) ≤ (n : Int) + 16 + (j : Int) := by omega
            have b0 : (n : Int) + (j : Int) < 176 := by omega
            have b1 : (n : Int) + 16 + (j : Int) < 176 := by omega
            have c0 : wr.drew.cell? ⟨p, 256 + (n + j), none⟩ = some (.int .u8 (n8 (kbyte b (4 * m + j - 16)))) := by
              have h := st4.at (256 + (n + j)) (by omega)
              rw [keyF, if_neg (by omega), show 256 + (n + j) - 256 = 4 * m + j - 16 by omega, hf' _ (by omega)] at h
              exact h
            have c1 : wr.drew.cell? ⟨g, j, none⟩ = some (.int .u8 (n8 (wbytes b m j))) := by
              have h : wr.cell? ⟨g, j, none⟩ = _ := (cell_of_row _ _ _ _ _ _ rowg4).trans (bytesArr_get u 4 j hj4)
              rw [hu j hj4] at h
              exact h
            have c2 : wr.drew.cell? ⟨p, 256 + (n + 16 + j), none⟩ = some (.int .u8 (n8 (keyF f' (256 + (n + 16 + j))))) := st4.at (256 + (n + 16 + j)) (by omega)
            have f2 : wr.drew.frozen? ⟨p, 256 + (n + 16 + j), none⟩ = false := st4.free (256 + (n + 16 + j))
            go_wp2_with fail
            refine region_head 20 mixedOrders (by kernel_rfl) ?_
            simp only [List.take_succ_cons, List.take_zero, List.drop_succ_cons, List.drop_zero]
            repeat (go_big_quiet_step (fail))
            refine wpQuiet_nil ?_
            go_wp2_with fail
            have st5 := st4.set (256 + (n + 16 + j)) (kbyte b (4 * m + j - 16) ^^^ wbytes b m j)
            rw [← kbyte_next b m j hm4 hj4] at *
            go_roundw
            case rel =>
              refine ⟨j + 1, fun i => if i = 4 * m + j then kbyte b (4 * m + j) else f' i, by omega, by go_num, fun i hi => ?_, ?_, ?_⟩
              · by_cases h : i = 4 * m + j
                · dsimp only
                  rw [if_pos h, h]
                · dsimp only
                  rw [if_neg h]; exact hf' _ (by omega)
              · have e : updb (keyF f') (256 + (n + 16 + j)) (kbyte b (4 * m + j)) = keyF (fun i => if i = 4 * m + j then kbyte b (4 * m + j) else f' i) := by
                  funext i
                  unfold updb keyF
                  dsimp only
                  by_cases h : i = 256 + (n + 16 + j)
                  · rw [if_pos h, if_neg (by omega), if_pos (by omega)]
                  · by_cases h2 : i < 256
                    · rw [if_neg h, if_pos h2, if_pos h2]
                    · rw [if_neg h, if_neg h2, if_neg h2, if_neg (by omega)]
                rw [e] at st5
                exact ⟨st5.below.drew, st5.row, st5.new⟩
              · show (wr.setCell _ _).heap[g]? = _
                rw [heap_setCell_other _ _ _ _ hgp]; exact rowg4
            case measure => simp [intOf]; omega
          · obtain rfl : j = 4 := by omega
            go_wp2_with fail
            refine ⟨⟨m + 1, f', by omega, by omega, ?_, ?_, fun i hi => hf' i (by omega), st4⟩, ?_⟩
            · rw [show 4 * (m + 1) - 16 = n + 4 by omega]
              congr 1
            · rw [show m + 1 + 3 = m + 4 by omega]
            · simp [intOf]; omega
    · obtain rfl : m = 44 := by omega
      go_wp2_with fail
      go_ret
      refine ⟨p, rfl, st.below, ?_, st.new⟩
      rw [st.row, bytesArr_congr (keyF f) (keyF (kbyte b)) 432 (fun i hi => by
        unfold keyF
        by_cases h : i < 256
        · rw [if_pos h, if_pos h]
        · rw [if_neg h, if_neg h, hf _ (by omega)])]
end Go.Proofs.YtjbpjoondmcnlabDoor
