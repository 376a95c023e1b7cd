/-
  FRAMES: FramesAcks.
-/
import Derived.Test.YtcgbhcmgddgheabDoorFrT
namespace Go.Proofs.YtcgbhcmgddgheabDoor
open Go Go.RowKit Go.BigFrame
set_option linter.unusedSimpArgs false
set_option linter.unusedVariables false
set_option maxRecDepth 100000
theorem wpList_append_span {ops : Array Oper} {rest : List Oper} {o : Oper} {a : Act} {w : World} {Q : Exit → Act → World → Prop} (hgd : o.guard = none) (s x : Operand)
    (ho : o.op = .call { callee := .builtin .append, args := #[s, x], argTypes := #[31, 31] })
    (B : Nat) (v : Value) (A : List (Int × Int)) (hs : a.eval s = v) (hown : w.ownsRow B ST 2 v A.length (spC A)) (g : Nat) (y1 y2 : Int) (hx : a.eval x = .slice (some ⟨g, 0, none⟩) 1 1)
    (hg : w.heap[g]? = some (.cells #[.int .i64 y1, .int .i64 y2] 50 (0, 0))) (hA : A.length ≤ 1000) (hbase : B ≤ w.heap.size)
    (h : ∀ v' w', w'.ownsRow B ST 2 v' (A.length + 1) (spC (A ++ [(y1, y2)])) → w.grownBy w' v.ownBlock → wpList Tryd.prog ops Q rest (a.put o.dst v') w') : wpList Tryd.prog ops Q (o :: rest) a w :=
  wpList_plain hgd fun _ hK => step_append_span s x ho B v A hs hown g y1 y2 hx hg hA hbase (fun v' w' h1 h2 => hK _ _ (h v' w' h1 h2))
set_option maxHeartbeats 16000000 in
theorem acks_law (on : Nat → Bool) (a : Option Addr) (n c : Nat) (base : Int) (w : World) (hB : BoolsIn w a n on) (hnc : n ≤ c) (hcm : c ≤ maxLen) (tab : Tab w) :
    Calls Tryd.prog 5 #[.slice a n c, .int .i64 base] w fun e w' => e = .returned (.bool true) ∧ Below w.heap.size w w' := by
  have FM := Lib.hid (framed_any w tab)
  have TB := Lib.hid tab
  have HB := Lib.hid hB
  have hn63 : n ≤ 9223372036854775807 := by unfold maxLen at hcm; omega
  have hc63 : c ≤ 9223372036854775807 := by unfold maxLen at hcm; omega
  clear tab hB hcm
  go_enter Tryd.func5, Tryd.ntmps5
  go_wp2_with fail
  with_reducible refine FM.out.mono ?_
  rintro e w1 ⟨rfl, hb1⟩
  have B1 := Lib.hid hb1
  clear hb1 FM
  go_upto_region 4 with (fail)
  obtain ⟨b0, hb0⟩ : ∃ q, wrap64 ((IntKind.u64.wrap base).tmod 1125899906842624) = q := ⟨_, rfl⟩
  have B0 : 0 ≤ b0 ∧ b0 < 1125899906842624 := by
    rw [← hb0]
    have h0 : 0 ≤ IntKind.u64.wrap base ∧ IntKind.u64.wrap base < 18446744073709551616 := by rw [IntKind.wrap_u64]; omega
    have h1 : (IntKind.u64.wrap base).tmod 1125899906842624 = (IntKind.u64.wrap base) % 1125899906842624 := Int.tmod_eq_emod_of_nonneg h0.1
    rw [h1]; unfold wrap64
    omega
  rw [hb0]
  obtain ⟨b01, b02⟩ := B0
  clear hb0
  obtain ⟨m, hm⟩ : ∃ m : Nat, min n 120 = m := ⟨_, rfl⟩
  have hm1 : m ≤ n := by omega
  have hm2 : m ≤ 120 := by omega
  have hE : (if (120 : Int) < (n : Int) then (120 : Int) else (n : Int)) = (m : Int) := by split <;> omega
  clear hm
  go_upto_region 6 with (fail)
  go_loopw [5, 6] (fun s5 s6 wr => ∃ (r : Nat) (A : List (Int × Int)), r ≤ m ∧ s6 = .int .i64 ((r : Int) - 1) ∧ fallF MX A ∧ b0 + (r : Int) ≤ nextM MX A + 2 ∧ A.length + r ≤ m ∧ wr.ownsRow w1.heap.size ST 2 s5 A.length (spC A) ∧ Below w1.heap.size w1 wr) (fun _ s6 _ => (intOf s6 + 1).toNat)
  case atStart => exact ⟨m, [], Nat.le_refl _, rfl, trivial, by show b0 + (m : Int) ≤ MX + 2; unfold MX; omega, by simp, World.ownsRow_nil _ _ _ _, Below.refl _ _⟩
  case round =>
    obtain ⟨r, A, hr, rfl, hfal, hnx, hlen, hown, hbel⟩ := hrel
    have FAL := Lib.hid hfal
    have OWN := Lib.hid hown
    have BEL := Lib.hid hbel
    clear hfal hown hbel
    by_cases hr0 : r = 0
    · subst hr0
      rw [show ((0 : Nat) : Int) - 1 = -1 by decide]
      obtain ⟨ga, gc, rfl⟩ := own_form OWN.out
      have sp := owns_spans OWN.out
      have BW := Lib.hid (B1.out.trans (BEL.out.mono B1.out.size))
      have pu := put_any ⟨2, 0, 0, 0, 0, false, ⟨#[]⟩, ⟨#[]⟩, A⟩ (.slice ga A.length gc) wr sp (Nat.zero_le _) (Nat.zero_le _) (show -9223372036854775808 ≤ (2 : Int) by decide) (show (2 : Int) ≤ 9223372036854775807 by decide) (TB.out.later BW.out)
      unfold PutPost at pu
      rw [put_ack A 0 ⟨Int.le_refl _, by decide⟩] at pu
      have SP := Lib.hid sp
      obtain ⟨k, hk⟩ : ∃ k, A.length = k := ⟨_, rfl⟩
      have hk120 : k ≤ 120 := by omega
      have HK := Lib.hid hk
      clear sp hnx hlen
      by_cases hf : falling A
      rotate_left
      · rw [if_neg hf] at pu
        have PU := Lib.hid (show Calls Tryd.prog 8 #[.agg #[.int .i64 2, .int .i64 0, .int .i64 0, .int .i64 0, .int .i64 0, .bool false, .string ⟨#[]⟩, .string ⟨#[]⟩, .slice ga A.length gc]] wr fun e w' => e = .returned (.tuple #[.slice none 0 0, .int .i64 2]) ∧ Below wr.heap.size wr w' from pu)
        have hlens : k = 0 ∨ 64 < k := by
          by_cases h : k = 0 ∨ 64 < k
          · exact h
          · exact absurd ⟨by omega, FAL.out⟩ hf
        rw [hk] at PU ⊢
        clear pu hf hk
        rcases hlens with h0 | h64
        · subst h0
          go_wp2_with fail
          with_reducible refine PU.out.mono ?_
          rintro e w3 ⟨rfl, hb3⟩
          have END := Lib.hid (BW.out.trans (hb3.mono BW.out.size))
          clear hb3 PU
          go_wp2_with fail
          go_ret
          exact ⟨rfl, END.out⟩
        · have e0 : ((k : Int) == 0) = false := by rw [beq_eq_false_iff_ne]; omega
          have e64 : (64 : Int) < (k : Int) := by omega
          go_wp2_with fail
          with_reducible refine PU.out.mono ?_
          rintro e w3 ⟨rfl, hb3⟩
          have END := Lib.hid (BW.out.trans (hb3.mono BW.out.size))
          clear hb3 PU
          go_wp2_with fail
          go_ret
          exact ⟨rfl, END.out⟩
      rw [if_pos hf] at pu
      obtain ⟨SS, hSS⟩ : ∃ SS, byteT 2 ++ partsT ⟨2, 0, 0, 0, 0, false, ⟨#[]⟩, ⟨#[]⟩, A⟩ [9] = SS := ⟨_, rfl⟩
      rw [hSS] at pu
      have PU := Lib.hid (show Calls Tryd.prog 8 #[.agg #[.int .i64 2, .int .i64 0, .int .i64 0, .int .i64 0, .int .i64 0, .bool false, .string ⟨#[]⟩, .string ⟨#[]⟩, .slice ga A.length gc]] wr fun e w' => (∃ v, e = .returned (.tuple #[v, .int .i64 0]) ∧ OwnS wr.heap.size v SS w') ∧ Below wr.heap.size wr w' from pu)
      have HG := Lib.hid (fun (F : Nat → BitVec 8) (h : Sg F 0 SS) => (show getR F SS.size = (⟨2, 0, 0, 0, 0, false, ⟨#[]⟩, ⟨#[]⟩, A⟩, SS.size, 0) by
        have h1 := get_ack (F := F) (len := SS.size) ⟨2, 0, 0, 0, 0, false, ⟨#[]⟩, ⟨#[]⟩, A⟩ A rfl hf ⟨Int.le_refl _, (by decide : (0 : Int) ≤ MX)⟩ (by rw [hSS]; exact h) (by rw [hSS]; exact Nat.le_refl _)
        rw [hSS] at h1
        exact h1))
      have hk1 : 1 ≤ k ∧ k ≤ 64 := by have := hf.1; omega
      rw [hk] at PU ⊢
      clear pu hf hk hSS
      have e0 : ((k : Int) == 0) = false := by rw [beq_eq_false_iff_ne]; omega
      have e64 : ¬ (64 : Int) < (k : Int) := by omega
      go_wp2_with fail
      with_reducible refine PU.out.mono ?_
      rintro e w3 ⟨⟨v3, rfl, o3⟩, hb3⟩
      obtain ⟨a3, c3, rfl, hc3, hm3, hb, _⟩ := o3.asText
      have gt := get_any' (bx SS) a3 SS.size c3 w3 hb hc3 hm3
      rw [HG.out (bx SS) (fun i _ => by rw [Nat.zero_add])] at gt
      have GT := Lib.hid gt
      have W3 := Lib.hid (BW.out.trans (hb3.mono BW.out.size))
      have S3 := Lib.hid (SP.out.later hb3)
      obtain ⟨z, hz⟩ : ∃ z, SS.size = z := ⟨_, rfl⟩
      rw [hz] at GT ⊢
      clear o3 hb3 gt hb PU HG hc3 hm3 hz
      go_upto_region 16 with (fail)
      go_wp2_with fail
      with_reducible refine GT.out.mono ?_
      rintro e w4 ⟨v4, rfl, s4, b4⟩
      obtain ⟨av, cv, rfl, hcv, _⟩ := s4.at_
      have S4 := Lib.hid s4
      have W4 := Lib.hid (W3.out.trans (b4.mono W3.out.size))
      have S3' := Lib.hid (S3.out.later b4)
      have hcv63 : cv ≤ 9223372036854775807 := by have := hcv.2; unfold maxLen at this; omega
      have hgc63 : gc ≤ 9223372036854775807 := by
        obtain ⟨_, _, e1, hc1, _⟩ := S3.out.at_
        injection e1 with _ _ e3
        have := hc1.2
        unfold maxLen at this
        omega
      clear s4 b4 GT hcv
      dsimp only [Fr.cells]
      unfold frC
      rw [HK.out]
      go_upto_region 17 with (fail)
      have rowf := heap_alloc_last w4 (.cells #[.int .i64 2, .int .i64 0, .int .i64 0, .int .i64 0, .int .i64 0, .bool false, .string ⟨#[]⟩, .string ⟨#[]⟩, .slice av k cv] 33)
      have belf := (Below.refl w4.heap.size w4).alloc (Nat.le_refl _) (.cells #[.int .i64 2, .int .i64 0, .int .i64 0, .int .i64 0, .int .i64 0, .bool false, .string ⟨#[]⟩, .string ⟨#[]⟩, .slice av k cv] 33)
      generalize w4.alloc _ = w5 at *
      have S5 := Lib.hid (S4.out.later belf)
      have T5 := Lib.hid (S3'.out.later belf)
      have W5 := Lib.hid (W4.out.trans (belf.mono W4.out.size))
      have C8 := Lib.hid (fun (w' : World) (hb : Below w5.heap.size w5 w') => (cells9 ((hb.block _ (lt_row rowf)).trans rowf)).2.2.2.2.2.2.2.2)
      obtain ⟨c0, c1, c2', c3, c4, c5, c6, c7, c8⟩ := cells9 rowf
      clear rowf belf
      go_upto_region 20 with (fail)
      clear c0 c1 c2' c3 c4 c5 c6 c7 c8
      go_loopw [13] (fun s13 wr => ∃ j : Nat, j ≤ k ∧ s13 = .int .i64 (j : Int) ∧ Below w5.heap.size w5 wr) (fun s13 _ => k - (intOf s13).toNat)
      case atStart => exact ⟨0, Nat.zero_le _, rfl, Below.refl _ _⟩
      case round =>
        obtain ⟨j, hj, rfl, hbj⟩ := hrel
        have BJ := Lib.hid hbj
        clear hbj
        by_cases hjk : j < k
        · have hjI : (j : Int) < (k : Int) := by omega
          have hjA : j < A.length := by rw [HK.out]; exact hjk
          obtain ⟨_, _, e1, _, h1⟩ := (S5.out.later BJ.out).at_
          obtain ⟨_, _, e2, _, h2⟩ := (T5.out.later BJ.out).at_
          injection e1 with e1a _ _
          injection e2 with e2a _ _
          subst e1a e2a
          obtain h0 | ⟨b4, o4, rfl, _, hc4⟩ := h1
          · rw [h0] at hjA; exact absurd hjA (Nat.not_lt_zero _)
          obtain h0 | ⟨b3, o3, rfl, _, hc3⟩ := h2
          · rw [h0] at hjA; exact absurd hjA (Nat.not_lt_zero _)
          obtain ⟨p1, p2⟩ := hc4 j hjA
          obtain ⟨q1, q2⟩ := hc3 j hjA
          obtain ⟨x, hx⟩ : ∃ x, A[j].1 = x := ⟨_, rfl⟩
          obtain ⟨y, hy⟩ : ∃ y, A[j].2 = y := ⟨_, rfl⟩
          rw [hx] at p1 q1
          rw [hy] at p2 q2
          have d1 : wr.drew.cell? ⟨b4, o4 + j * 2, none⟩ = some (.int .i64 x) := p1
          have d2 : wr.drew.cell? ⟨b4, o4 + j * 2 + 1, none⟩ = some (.int .i64 y) := p2
          have d3 : wr.drew.cell? ⟨b3, o3 + j * 2, none⟩ = some (.int .i64 x) := q1
          have d4 : wr.drew.cell? ⟨b3, o3 + j * 2 + 1, none⟩ = some (.int .i64 y) := q2
          have d5 : wr.drew.cell? ⟨w4.heap.size, 8, none⟩ = some (.slice (some ⟨b4, o4, none⟩) k cv) := C8.out wr BJ.out
          clear hx hy p1 p2 q1 q2 hc3 hc4
          go_upto_region 22 with (fail)
          go_region
          go_wp2_with fail
          go_roundw
          case rel => exact ⟨j + 1, by omega, by go_num, BJ.out.drew⟩
          case measure => (simp [intOf] <;> omega)
        · obtain rfl : j = k := by omega
          have hjI : ¬ (j : Int) < (j : Int) := by omega
          have END := Lib.hid (W5.out.trans (BJ.out.mono W5.out.size))
          go_wp2_with fail
          go_ret
          exact ⟨rfl, END.out⟩
    · obtain ⟨i, rfl⟩ : ∃ i, r = i + 1 := ⟨r - 1, by omega⟩
      rw [show ((i + 1 : Nat) : Int) - 1 = (i : Int) by omega]
      obtain ⟨bb, oo, rfl, hbb, hcell⟩ := HB.out.cells.resolve_left (by omega)
      have ci := ((B1.out.trans (BEL.out.mono B1.out.size)).cell (p := ⟨bb, oo + i, none⟩) hbb).trans (hcell i (by omega))
      have hin : (i : Int) < (n : Int) := by omega
      have hi0 : (0 : Int) ≤ (i : Int) := by omega
      obtain ⟨x, hx⟩ : ∃ x, on i = x := ⟨_, rfl⟩
      rw [hx] at ci
      obtain ⟨ga, gc, rfl⟩ := own_form OWN.out
      clear hcell hbb hx
      cases x with
      | false =>
        go_upto_region 13 with (fail)
        case roundEnd =>
          exact ⟨⟨i, A, by omega, by first | rfl | (congr 1), FAL.out, by omega, by omega, OWN.out, BEL.out⟩, by simp only [intOf]; omega⟩
      | true =>
        obtain rfl | ⟨A', xy, rfl⟩ : A = [] ∨ ∃ A' xy, A = A' ++ [xy] := by
          rcases List.eq_nil_or_concat A with h | ⟨a', b', h⟩
          · exact .inl h
          · exact .inr ⟨a', b', by rw [h, List.concat_eq_append]⟩
        · simp only [List.length_nil]
          have hl := heap_alloc_last wr (.cells #[.int .i64 (b0 + (i : Int)), .int .i64 (b0 + (i : Int))] 50)
          have al := (Below.refl wr.heap.size wr).alloc (Nat.le_refl _) (.cells #[.int .i64 (b0 + (i : Int)), .int .i64 (b0 + (i : Int))] 50)
          have OA := Lib.hid (OWN.out.alloc (.cells #[.int .i64 (b0 + (i : Int)), .int .i64 (b0 + (i : Int))] 50))
          have HL := Lib.hid hl
          have BA := Lib.hid (BEL.out.trans (al.mono BEL.out.size))
          have SA := Lib.hid (show w1.heap.size ≤ (wr.alloc (.cells #[.int .i64 (b0 + (i : Int)), .int .i64 (b0 + (i : Int))] 50)).heap.size from BA.out.size)
          clear hl al
          go_upto_region 13 with (first
            | (at_builtin; refine wpList_append_span (o := ⟨some 67, _, _, _, _, _⟩) rfl _ _ rfl w1.heap.size _ (([] : List (Int × Int))) rfl (OA.out) wr.heap.size (b0 + (i : Int)) (b0 + (i : Int)) rfl HL.out (by decide) SA.out ?_; intro v2 w2 ho2 hg2; have O2 := Lib.hid ho2; have BE2 := Lib.hid (BA.out.grown hg2 SA.out (fun k hk => (OWN.out.lt k hk).1)); clear ho2 hg2)
            | fail)
          case roundEnd =>
            exact ⟨⟨i, (([] : List (Int × Int))) ++ [(b0 + (i : Int), b0 + (i : Int))], by omega, by first | rfl | (congr 1), by rw [fallF_snoc]; exact ⟨FAL.out, by omega, Int.le_refl _, by show b0 + (i : Int) ≤ MX; unfold MX; omega⟩, by rw [nextM_snoc]; omega, by rw [List.length_append, List.length_singleton]; omega, by rw [List.length_append]; exact O2.out, BE2.out⟩, by simp only [intOf]; omega⟩
        · obtain ⟨x1, x2⟩ := xy
          have hL : (A' ++ [(x1, x2)]).length = A'.length + 1 := by simp
          have hf2 := (fallF_snoc A' MX (x1, x2)).1 FAL.out
          dsimp only at hf2
          obtain ⟨hf3, hf4, hf5, hf6⟩ := hf2
          rw [nextM_snoc] at hnx
          dsimp only at hnx
          rw [hL] at OWN hlen ⊢
          have HF3 := Lib.hid hf3
          have HF6 := Lib.hid hf6
          clear hf3 hf6
          obtain ⟨k, hk⟩ : ∃ k, A'.length = k := ⟨_, rfl⟩
          rw [hk] at OWN hlen hL ⊢
          rcases OWN.out.2 with ⟨_, h0⟩ | ⟨gb, cap2, cur, hv, hbg, hg, hnc2, hcm2, hcs2, htk⟩
          · omega
          injection hv with hv1 hv2 hv3
          subst hv1 hv3
          have cx : wr.cell? ⟨gb, k * 2, none⟩ = some (.int .i64 x1) := by
            obtain ⟨q1, _⟩ := spC_at (A' ++ [(x1, x2)]) k (by omega)
            have e : (A' ++ [(x1, x2)])[k]'(by omega) = (x1, x2) := by subst hk; simp
            rw [e] at q1
            rw [cell_of_row _ _ _ _ _ _ hg, ← q1, ← htk, List.getElem?_take, if_pos (by omega)]
            simp
          have fz : wr.frozen? ⟨gb, k * 2, none⟩ = false := frozen_of_row _ _ _ _ _ hg
          have hjj : ((k + 1 : Nat) : Int) - 1 = (k : Int) := by omega
          have hcap : gc ≤ 9223372036854775807 := by unfold maxLen at hcm2; omega
          have hx2 : x2 ≤ MX + 2 := by have := fallF_at (A' ++ [(x1, x2)]) MX FAL.out k (by omega); rw [show (A' ++ [(x1, x2)]).getD k (0, 0) = (x1, x2) by subst hk; simp] at this; have := this.2.2; dsimp only at this; omega
          unfold MX at hx2
          have HK := Lib.hid hk
          have HTL := Lib.hid hL
          clear hg htk hcs2 hnc2 hk hL hcm2
          by_cases he : x1 = b0 + (i : Int) + 1
          · have e1 : (x1 == b0 + (i : Int) + 1) = true := by rw [he]; simp
            have st := OWN.out.stored (k * 2) (.int .i64 (b0 + (i : Int)))
            rw [← HK.out, spC_set, HK.out] at st
            have ST1 := Lib.hid st.1
            have BE := Lib.hid (BEL.out.grown st.2 BEL.out.size (fun q hq => by injection hq with hq; omega))
            clear st
            go_wp2_with fail
            go_roundw
            case measure => (simp [intOf] <;> omega)
            case rel =>
              exact ⟨i, A' ++ [(b0 + (i : Int), x2)], by omega, by first | rfl | (congr 1), by rw [fallF_snoc]; exact ⟨HF3.out, by omega, by dsimp only; omega, HF6.out⟩, by rw [nextM_snoc]; omega, by rw [List.length_append, List.length_singleton, HK.out]; omega, by rw [List.length_append, List.length_singleton, HK.out]; exact ST1.out, BE.out⟩
          · have e1 : (x1 == b0 + (i : Int) + 1) = false := by rw [beq_eq_false_iff_ne]; exact he
            have hl := heap_alloc_last wr (.cells #[.int .i64 (b0 + (i : Int)), .int .i64 (b0 + (i : Int))] 50)
            have al := (Below.refl wr.heap.size wr).alloc (Nat.le_refl _) (.cells #[.int .i64 (b0 + (i : Int)), .int .i64 (b0 + (i : Int))] 50)
            have OA := Lib.hid (OWN.out.alloc (.cells #[.int .i64 (b0 + (i : Int)), .int .i64 (b0 + (i : Int))] 50))
            have HL := Lib.hid hl
            have BA := Lib.hid (BEL.out.trans (al.mono BEL.out.size))
            have SA := Lib.hid (show w1.heap.size ≤ (wr.alloc (.cells #[.int .i64 (b0 + (i : Int)), .int .i64 (b0 + (i : Int))] 50)).heap.size from BA.out.size)
            clear hl al
            go_wp2_with (first
              | (at_builtin; refine wpList_append_span (o := ⟨some 67, _, _, _, _, _⟩) rfl _ _ rfl w1.heap.size _ (A' ++ [(x1, x2)]) rfl (by rw [HTL.out]; exact OA.out) wr.heap.size (b0 + (i : Int)) (b0 + (i : Int)) rfl HL.out (by rw [HTL.out]; omega) SA.out ?_; intro v2 w2 ho2 hg2; have O2 := Lib.hid ho2; have BE2 := Lib.hid (BA.out.grown hg2 SA.out (fun k hk => (OWN.out.lt k hk).1)); clear ho2 hg2)
              | fail)
            go_roundw
            case measure => (simp [intOf] <;> omega)
            case rel =>
              exact ⟨i, (A' ++ [(x1, x2)]) ++ [(b0 + (i : Int), b0 + (i : Int))], by omega, by first | rfl | (congr 1), by rw [fallF_snoc]; exact ⟨FAL.out, by omega, Int.le_refl _, by rw [nextM_snoc]; dsimp only; omega⟩, by rw [nextM_snoc]; omega, by rw [List.length_append, List.length_singleton, HTL.out]; omega, by rw [List.length_append]; exact O2.out, BE2.out⟩
end Go.Proofs.YtcgbhcmgddgheabDoor
