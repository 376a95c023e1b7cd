/-
  GuardApart: what is fit to be sealed by one's keys is so by any.
  GuardApart, of parts that are known.
-/
import Derived.Test.YtjbpjoondmcnlabDoorGZb
namespace Go.Proofs.YtjbpjoondmcnlabDoor
open Go Go.RowKit Go.BigFrame
set_option linter.unusedSimpArgs false
set_option linter.unusedVariables false
set_option maxRecDepth 100000
theorem seal_fine (k iv mk f xs : Nat → BitVec 8) (m n s : Nat) (N : Int) (hm : m ≤ 4000) (hn : n ≤ 1000) (hs1 : 1 ≤ s) (hs4 : s ≤ 4) (hsm : s + 1 ≤ m) (h0 : 0 ≤ N) (h1 : N ≤ 4611686018427387903) (hform : formOk f m s N) (hn4 : 4 ≤ n + s) : SealOk k iv mk f xs m n s N := by
  intro w' a a2 c c2 hc hcm hf hx
  exact seal_ok k iv mk f xs N h0 h1 s m n hs1 hs4 hm hsm (by omega) (by omega) a a2 c c2 hc hcm w' hf hx (fun w2 hb => sealable_ok (strOf k 16) (strOf iv 12) (strOf mk 16) (strOf_size _ _) (strOf_size _ _) (strOf_size _ _) N h0 h1 s hs1 hs4 a a2 m c n c2 f hm hc w2 hsm (bytesIn_later hf hb) 0 (.inr (.inr (.inr ⟨hform, by omega, by omega, rfl⟩))))
/-- By some keys: what is sealed is opened, by whoever expects the number. -/
theorem seal_then (k iv mk f xs : Nat → BitVec 8) (m n s : Nat) (N : Int) (hm : m ≤ 1000) (hn : n ≤ 1000) (hs1 : 1 ≤ s) (hs4 : s ≤ 4) (hsm : s + 1 ≤ m) (h0 : 0 ≤ N) (h1 : N ≤ 4611686018427387903) (hform : formOk f m s N) (hn4 : 4 ≤ n + s) (w : World) (g z c : Nat) (hc : m + (n + 16) ≤ c) (hcm : c ≤ maxLen) (hR : RowAt w g z (m + (n + 16)) (packF k iv mk f xs N m s n)) :
    Calls Tryd.prog 14 #[.agg (kysC (strOf k 16) (strOf iv 12) (strOf mk 16)), .slice (some ⟨g, z, none⟩) (m + (n + 16)) c, .int .i64 ((m : Int) - (s : Int)), .int .i64 N] w
      fun e w' => ∃ g1 c1 r1, e = .returned (.tuple #[.slice (some ⟨g1, 0, none⟩) m c1, .int .i64 N, .slice (some ⟨r1, 0, none⟩) n n, .int .i64 0]) ∧ BytesIn w' (some ⟨g1, 0, none⟩) m f ∧ BytesIn w' (some ⟨r1, 0, none⟩) n xs ∧ Below w.heap.size w w' := by
  refine open_back k iv mk f xs N m s n hs1 hs4 hsm hn4 hform N h0 h1 h0 h1 ?_ ?_ hm hn g z c hc hcm w hR
  · obtain rfl | rfl | rfl | rfl : s = 1 ∨ s = 2 ∨ s = 3 ∨ s = 4 := by omega
    all_goals simp
  · obtain rfl | rfl | rfl | rfl : s = 1 ∨ s = 2 ∨ s = 3 ∨ s = 4 := by omega
    all_goals simp
end Go.Proofs.YtjbpjoondmcnlabDoor
namespace Go.Proofs.YtjbpjoondmcnlabDoor
open Go Go.RowKit Go.BigFrame
set_option linter.unusedSimpArgs false
set_option linter.unusedVariables false
set_option maxRecDepth 100000
set_option maxHeartbeats 64000000 in
theorem apart_any (K0 I0 M0 Hd C : ByteArray) (S N E : Int) (F : Bool) (df : Nat → BitVec 8) (dn : Nat) (hS0 : 0 - 9223372036854775808 ≤ S) (hS1 : S ≤ 9223372036854775807) (w : World) (T : TabK w) :
    Calls Tryd.prog 7 #[.agg (pkC K0 I0 M0 Hd S N C E F), .string (strOf df dn)] w fun e w' => e = .returned (.bool true) ∧ Below w.heap.size w w' := by
  obtain ⟨hf, hHd⟩ := str_of Hd Hd.size rfl
  obtain ⟨xs, hC⟩ := str_of C C.size rfl
  generalize Hd.size = hn at *
  generalize C.size = cn at *
  subst hHd hC
  have R0 : (w.alloc (.cells (pkC K0 I0 M0 (strOf hf hn) S N (strOf xs cn) E F) 25)).heap[w.heap.size]? = some (.cells (pkC K0 I0 M0 (strOf hf hn) S N (strOf xs cn) E F) 25 (0, 0)) := heap_alloc_last _ _
  have hb1 : Below w.heap.size w (w.alloc (.cells (pkC K0 I0 M0 (strOf hf hn) S N (strOf xs cn) E F) 25)) := (Below.refl w.heap.size w).alloc (Nat.le_refl _) _
  have dsz := strOf_size df dn
  have hdk : min dn 20 ≤ dn := by omega
  have dsu := fun w' => run_str_upto df dn (min dn 20) ((min dn 20 : Nat) : Int) rfl hdk w'
  have dE : (if (20 : Int) < (dn : Int) then (20 : Int) else (dn : Int)) = ((min dn 20 : Nat) : Int) := by split <;> omega
  have hd20 : min dn 20 ≤ 20 := by omega
  generalize min dn 20 = dm at *
  have FO := Lib.hid (fun (w' : World) (T' : TabK w') => first_ok df dm hd20 w' T')
  generalize lblB (comB df dm) 32 32 9 (tb qcin) = fa at *
  generalize lblB (comB df dm) 32 32 9 (tb qsin) = fb at *
  have NX := Lib.hid (fun (w' : World) (T' : TabK w') => next_ok fa w' T')
  generalize lblB fa 32 32 7 (tb qku) = fn at *
  have OA := Lib.hid (fun (w' : World) (T' : TabK w') => of_ok fa w' T')
  have OB := Lib.hid (fun (w' : World) (T' : TabK w') => of_ok fb w' T')
  have ON := Lib.hid (fun (w' : World) (T' : TabK w') => of_ok fn w' T')
  unfold keysC at OA OB ON
  generalize lblB fa 32 16 8 (tb qkey) = ka at *
  generalize lblB fa 32 12 7 (tb qiv) = ia at *
  generalize lblB fa 32 16 7 (tb qhp) = ma at *
  generalize lblB fb 32 16 8 (tb qkey) = kb at *
  generalize lblB fb 32 12 7 (tb qiv) = ib at *
  generalize lblB fb 32 16 7 (tb qhp) = mb at *
  generalize lblB fn 32 16 8 (tb qkey) = kn at *
  generalize lblB fn 32 12 7 (tb qiv) = iN at *
  generalize lblB fn 32 16 7 (tb qhp) = mn at *
  obtain ⟨KA, hKA⟩ : ∃ X, strOf ka 16 = X := ⟨_, rfl⟩
  obtain ⟨IA, hIA⟩ : ∃ X, strOf ia 12 = X := ⟨_, rfl⟩
  obtain ⟨MA, hMA⟩ : ∃ X, strOf ma 16 = X := ⟨_, rfl⟩
  obtain ⟨KB, hKB⟩ : ∃ X, strOf kb 16 = X := ⟨_, rfl⟩
  obtain ⟨IB, hIB⟩ : ∃ X, strOf ib 12 = X := ⟨_, rfl⟩
  obtain ⟨MB, hMB⟩ : ∃ X, strOf mb 16 = X := ⟨_, rfl⟩
  obtain ⟨KN, hKN⟩ : ∃ X, strOf kn 16 = X := ⟨_, rfl⟩
  obtain ⟨IN, hIN⟩ : ∃ X, strOf iN 12 = X := ⟨_, rfl⟩
  obtain ⟨MN, hMN⟩ : ∃ X, strOf mn 16 = X := ⟨_, rfl⟩
  rw [hKA, hIA, hMA] at OA
  rw [hKB, hIB, hMB] at OB
  rw [hKN, hIN, hMN] at ON
  have EA := Lib.hid (And.intro hKA (And.intro hIA hMA))
  have EB := Lib.hid (And.intro hKB (And.intro hIB hMB))
  have EN := Lib.hid (And.intro hKN (And.intro hIN hMN))
  clear hKA hIA hMA hKB hIB hMB hKN hIN hMN
  generalize strOf fa 32 = SA at *
  generalize strOf fb 32 = SB at *
  generalize strOf fn 32 = SN at *
  generalize strOf df dn = SD at *
  generalize strOf df dm = SDm at *
  have FT := Lib.hid (fun w' => fit_any KA IA MA (strOf xs cn) hf hn S N E true w')
  have hsz := strOf_size xs cn
  have hk : min cn 100 ≤ cn := by omega
  have su := Lib.hid (fun w' => run_str_upto xs cn (min cn 100) ((min cn 100 : Nat) : Int) rfl hk w')
  have HE := Lib.hid (show (if (100 : Int) < (cn : Int) then (100 : Int) else (cn : Int)) = ((min cn 100 : Nat) : Int) by split <;> omega)
  have hk2 : min cn 100 ≤ 100 := by omega
  generalize min cn 100 = cm at *
  unfold pkC at *
  generalize strOf hf hn = SH at *
  generalize strOf xs cn = SC at *
  go_enter Tryd.func7, Tryd.ntmps7
  go_upto_region 1 with (fail)
  generalize w.alloc _ = w1 at *
  have HR := Lib.hid R0
  have B1 := Lib.hid hb1
  have Q0 := Lib.hid (lt_row R0)
  clear R0 hb1
  go_upto_region 2 with (fail)
  clear dsu dE dsz
  have TK := Lib.hid (fun (w' : World) (h : Below w1.heap.size w1 w') => T.later (B1.out.trans (h.mono B1.out.size)))
  have F2 := Lib.hid (FO.out w1 (TK.out w1 (Below.refl _ _)))
  go_upto_region 3 with (go_at_call 18; refine F2.out.mono ?_; rintro e w2 ⟨rfl, hb⟩; have B2 := Lib.hid hb; clear hb)
  have F3 := Lib.hid (FO.out w2 (TK.out w2 B2.out))
  go_upto_region 4 with (go_at_call 18; refine F3.out.mono ?_; rintro e w3 ⟨rfl, hb⟩; have B3 := Lib.hid (B2.out.trans (hb.mono B2.out.size)); clear hb)
  have N4 := Lib.hid (NX.out w3 (TK.out w3 B3.out))
  clear F2 F3 FO B2
  go_upto_region 5 with (go_at_call 19; refine N4.out.mono ?_; rintro e w4 ⟨rfl, hb⟩; have B4 := Lib.hid (B3.out.trans (hb.mono B3.out.size)); clear hb)
  have O4 := Lib.hid (OA.out w4 (TK.out w4 B4.out))
  clear N4 NX B3 OA
  go_upto_region 6 with (go_at_call 20; refine O4.out.mono ?_; rintro e w5 ⟨rfl, hb⟩; have B5 := Lib.hid (B4.out.trans (hb.mono B4.out.size)); clear hb)
  have RK5 : (w5.alloc (.cells #[.string KA, .string IA, .string MA] 34)).heap[w5.heap.size]? = some (.cells #[.string KA, .string IA, .string MA] 34 (0, 0)) := heap_alloc_last _ _
  have hA5 : Below w5.heap.size w5 (w5.alloc (.cells #[.string KA, .string IA, .string MA] 34)) := (Below.refl _ _).alloc (Nat.le_refl _) _
  have hL5 : w5.heap.size < (w5.alloc (.cells #[.string KA, .string IA, .string MA] 34)).heap.size := by simp
  generalize w5.alloc _ = v5 at *
  have BA5 := Lib.hid (B5.out.trans (hA5.mono B5.out.size))
  have KR5 := Lib.hid RK5
  have KL5 := Lib.hid hL5
  have PB5 := Lib.hid hA5
  clear RK5 hA5 hL5
  have O5 := Lib.hid (OB.out v5 (TK.out v5 BA5.out))
  clear O4 OB B4
  go_upto_region 7 with (go_at_call 20; refine O5.out.mono ?_; rintro e w6 ⟨rfl, hb⟩; have b6 := Lib.hid hb; have B6 := Lib.hid (BA5.out.trans (hb.mono BA5.out.size)); clear hb)
  have RK6 : (w6.alloc (.cells #[.string KB, .string IB, .string MB] 34)).heap[w6.heap.size]? = some (.cells #[.string KB, .string IB, .string MB] 34 (0, 0)) := heap_alloc_last _ _
  have hA6 : Below w6.heap.size w6 (w6.alloc (.cells #[.string KB, .string IB, .string MB] 34)) := (Below.refl _ _).alloc (Nat.le_refl _) _
  have hL6 : w6.heap.size < (w6.alloc (.cells #[.string KB, .string IB, .string MB] 34)).heap.size := by simp
  generalize w6.alloc _ = v6 at *
  have BA6 := Lib.hid (B6.out.trans (hA6.mono B6.out.size))
  have KR6 := Lib.hid RK6
  have KL6 := Lib.hid hL6
  have PB6 := Lib.hid hA6
  clear RK6 hA6 hL6
  have O6 := Lib.hid (ON.out v6 (TK.out v6 BA6.out))
  clear O5 ON
  go_upto_region 8 with (go_at_call 20; refine O6.out.mono ?_; rintro e w7 ⟨rfl, hb⟩; have b7 := Lib.hid hb; have B7 := Lib.hid (BA6.out.trans (hb.mono BA6.out.size)); clear hb)
  have RK7 : (w7.alloc (.cells #[.string KN, .string IN, .string MN] 34)).heap[w7.heap.size]? = some (.cells #[.string KN, .string IN, .string MN] 34 (0, 0)) := heap_alloc_last _ _
  have hA7 : Below w7.heap.size w7 (w7.alloc (.cells #[.string KN, .string IN, .string MN] 34)) := (Below.refl _ _).alloc (Nat.le_refl _) _
  have hL7 : w7.heap.size < (w7.alloc (.cells #[.string KN, .string IN, .string MN] 34)).heap.size := by simp
  generalize w7.alloc _ = v7 at *
  have BA7 := Lib.hid (B7.out.trans (hA7.mono B7.out.size))
  have KR7 := Lib.hid RK7
  have KL7 := Lib.hid hL7
  have PB7 := Lib.hid hA7
  clear RK7 hA7 hL7
  clear O6
  have P6 := Lib.hid (b6.out.trans (PB6.out.mono b6.out.size))
  have P7 := Lib.hid (b7.out.trans (PB7.out.mono b7.out.size))
  have X7 := Lib.hid ((BA7.out.block _ Q0.out).trans HR.out)
  have K7A := Lib.hid (((P6.out.trans (P7.out.mono P6.out.size)).block _ KL5.out).trans KR5.out)
  have K7B := Lib.hid ((P7.out.block _ KL6.out).trans KR6.out)
  have K7N := Lib.hid KR7.out
  have L56 := Lib.hid (show w5.heap.size < w6.heap.size from Nat.lt_of_lt_of_le KL5.out b6.out.size)
  have L67 := Lib.hid (show w6.heap.size < w7.heap.size from Nat.lt_of_lt_of_le KL6.out b7.out.size)
  have L05 := Lib.hid (show w.heap.size < w5.heap.size from Nat.lt_of_lt_of_le Q0.out B5.out.size)
  have L7 := Lib.hid KL7.out
  clear b6 b7 PB5 PB6 PB7 P6 P7 KR5 KR6 KR7 HR BA5 BA6 B5 B6 B7
  have G7 := Lib.hid (guards_any v7 (TK.out v7 BA7.out))
  go_upto_region 10 with (go_at_call 8; refine G7.out.mono ?_; rintro e w8 ⟨rfl, hb⟩; have b8 := Lib.hid hb; clear hb)
  have X8 := Lib.hid ((b8.out.block _ (lt_row X7.out)).trans X7.out)
  have A8 := Lib.hid ((b8.out.block _ (lt_row K7A.out)).trans K7A.out)
  have D8 := Lib.hid ((b8.out.block _ (lt_row K7B.out)).trans K7B.out)
  have N8 := Lib.hid ((b8.out.block _ (lt_row K7N.out)).trans K7N.out)
  have B8 := Lib.hid (BA7.out.trans (b8.out.mono BA7.out.size))
  clear X7 K7A K7B K7N b8 G7
  obtain ⟨a0, a1, a2⟩ := kys_cells A8.out
  obtain ⟨x0, x1, x2, x3, x4, x5, x6, x7, x8⟩ := pk_cells X8.out
  have f0 : w8.frozen? ⟨w.heap.size, 0, none⟩ = false := frozen_of_row _ _ _ _ _ X8.out
  have f1 : w8.frozen? ⟨w.heap.size, 1, none⟩ = false := frozen_of_row _ _ _ _ _ X8.out
  have f2 : w8.frozen? ⟨w.heap.size, 2, none⟩ = false := frozen_of_row _ _ _ _ _ X8.out
  have f8 : w8.frozen? ⟨w.heap.size, 8, none⟩ = false := frozen_of_row _ _ _ _ _ X8.out
  clear x3 x4 x5 x6 x7
  go_upto_region 11 with (fail)
  clear a0 a1 a2 x0 x1 x2 x8 f0 f1 f2 f8
  have s0 := rowSet_cell w8 w.heap.size 0 _ _ (.string KA) X8.out
  have s1 := rowSet_cell _ w.heap.size 1 _ _ (.string IA) s0.row
  have s2 := rowSet_cell _ w.heap.size 2 _ _ (.string MA) s1.row
  have s8 := rowSet_cell _ w.heap.size 8 _ _ (.bool true) s2.row
  have h05 := L05.out
  have h56 := L56.out
  have h67 := L67.out
  have XR := Lib.hid s8.row
  have AR := Lib.hid (s8.keep (by omega) (s2.keep (by omega) (s1.keep (by omega) (s0.keep (show w5.heap.size ≠ w.heap.size by omega) A8.out))))
  have DR := Lib.hid (s8.keep (by omega) (s2.keep (by omega) (s1.keep (by omega) (s0.keep (show w6.heap.size ≠ w.heap.size by omega) D8.out))))
  have NR := Lib.hid (s8.keep (by omega) (s2.keep (by omega) (s1.keep (by omega) (s0.keep (show w7.heap.size ≠ w.heap.size by omega) N8.out))))
  have BT := Lib.hid ((B1.out.trans (B8.out.mono B1.out.size)).trans ((((s0.below _ (Nat.le_refl _)).trans (s1.below _ (Nat.le_refl _))).trans (s2.below _ (Nat.le_refl _))).trans (s8.below _ (Nat.le_refl _))))
  clear s0 s1 s2 s8 h05 h56 h67 X8 A8 D8 N8 B8 L05 L56 L67 L7 Q0 B1 TK BA7 KL5 KL6 KL7
  generalize World.setCell _ _ _ = wa at *
  have CX := Lib.hid (fun (w' : World) (h : Below wa.heap.size wa w') => show w'.cell? ⟨w.heap.size, 0, none⟩ = some (.string KA) ∧ w'.cell? ⟨w.heap.size, 1, none⟩ = some (.string IA) ∧ w'.cell? ⟨w.heap.size, 2, none⟩ = some (.string MA) ∧ w'.cell? ⟨w.heap.size, 3, none⟩ = some (.string SH) ∧ w'.cell? ⟨w.heap.size, 4, none⟩ = some (.int .i64 S) ∧ w'.cell? ⟨w.heap.size, 5, none⟩ = some (.int .i64 N) ∧ w'.cell? ⟨w.heap.size, 6, none⟩ = some (.string SC) ∧ w'.cell? ⟨w.heap.size, 7, none⟩ = some (.int .i64 E) ∧ w'.cell? ⟨w.heap.size, 8, none⟩ = some (.bool true) from pk_cells ((h.block _ (lt_row XR.out)).trans XR.out))
  have CA := Lib.hid (fun (w' : World) (h : Below wa.heap.size wa w') => kys_cells ((h.block _ (lt_row AR.out)).trans AR.out))
  have CB := Lib.hid (fun (w' : World) (h : Below wa.heap.size wa w') => kys_cells ((h.block _ (lt_row DR.out)).trans DR.out))
  have CN := Lib.hid (fun (w' : World) (h : Below wa.heap.size wa w') => kys_cells ((h.block _ (lt_row NR.out)).trans NR.out))
  clear XR AR DR NR
  obtain ⟨x0, x1, x2, x3, x4, x5, x6, x7, x8⟩ := CX.out wa (Below.refl _ _)
  go_upto_region 12 with (go_at_call 9; refine (FT.out _).mono ?_; rintro e wb ⟨gh, hm, rfl, hm64, hb⟩; have BB := Lib.hid hb; clear hb)
  clear x0 x1 x2 x3 x4 x5 x6 x7 x8 FT
  have szG := strOf_size gh hm
  have szX := strOf_size xs cm
  obtain ⟨r, PV, hSE, hPV⟩ := seal_two KA IA MA gh xs hm cm (by omega) (by omega) S N hS0 hS1
  have SE := Lib.hid hSE
  have HPV := Lib.hid hPV
  clear hSE hPV
  unfold kysC at SE
  have CG := Lib.hid (fun (w' : World) => conv_ownZ gh hm (by omega) w' w'.heap.size (Nat.le_refl _))
  have CXS := Lib.hid (fun (w' : World) => conv_ownZ xs cm (by omega) w' w'.heap.size (Nat.le_refl _))
  have VG := Lib.hid (fun (a : Option Addr) (c : Nat) (w' : World) (h : BytesIn w' a hm gh) => conv_in gh a hm c w' h)
  have VX := Lib.hid (fun (a : Option Addr) (c : Nat) (w' : World) (h : BytesIn w' a cm xs) => conv_in xs a cm c w' h)
  generalize strOf gh hm = SG at *
  generalize strOf xs cm = SX at *
  refine region_anyM mixedOrders ?_
  refine anyM_take (i := 0) (oi := ⟨some 123, _, _, _, _, _⟩) (v := .agg #[.string KA, .string IA, .string MA]) rfl (by kernel_rfl) (by kernel_rfl) (by kernel_rfl) (fun _ _ _ h => h) (.inl ⟨by rfl, fun w2 hw2 => ?_⟩) ?_
  · have hx : Below wb.drew.heap.size wb.drew w2 := hw2
    obtain ⟨d0, d1, d2⟩ := CA.out w2 (BB.out.drew.trans (hx.mono BB.out.drew.size))
    clear hw2 hx
    go_simp
  simp only [Act.put, List.setIfInBounds_toArray, List.set_cons_succ, List.set_cons_zero]
  refine anyM_take (i := 1) (oi := ⟨some 124, _, _, _, _, _⟩) (v := .string SG) rfl (by kernel_rfl) (by kernel_rfl) (by kernel_rfl) (fun _ _ _ h => h) (.inl ⟨by rfl, fun w2 hw2 => ?_⟩) ?_
  · clear hw2
    go_simp
  simp only [Act.put, List.setIfInBounds_toArray, List.set_cons_succ, List.set_cons_zero]
  refine anyM_take (i := 3) (oi := ⟨some 126, _, _, _, _, _⟩) (v := .pointer (some ⟨w.heap.size, 4, none⟩)) rfl (by kernel_rfl) (by kernel_rfl) (by kernel_rfl) (fun _ _ _ h => h) (.inl ⟨by rfl, fun w2 hw2 => ?_⟩) ?_
  · clear hw2
    go_simp
  simp only [Act.put, List.setIfInBounds_toArray, List.set_cons_succ, List.set_cons_zero]
  refine anyM_take (i := 4) (oi := ⟨some 127, _, _, _, _, _⟩) (v := .int .i64 S) rfl (by kernel_rfl) (by kernel_rfl) (by kernel_rfl) (fun _ _ _ h => h) (.inl ⟨by rfl, fun w2 hw2 => ?_⟩) ?_
  · have hx : Below wb.drew.heap.size wb.drew w2 := hw2
    have d4 := (CX.out w2 (BB.out.drew.trans (hx.mono BB.out.drew.size))).2.2.2.2.1
    clear hw2 hx
    go_simp
  simp only [Act.put, List.setIfInBounds_toArray, List.set_cons_succ, List.set_cons_zero]
  refine anyM_take (i := 5) (oi := ⟨some 128, _, _, _, _, _⟩) (v := .pointer (some ⟨w.heap.size, 5, none⟩)) rfl (by kernel_rfl) (by kernel_rfl) (by kernel_rfl) (fun _ _ _ h => h) (.inl ⟨by rfl, fun w2 hw2 => ?_⟩) ?_
  · clear hw2
    go_simp
  simp only [Act.put, List.setIfInBounds_toArray, List.set_cons_succ, List.set_cons_zero]
  refine anyM_take (i := 6) (oi := ⟨some 129, _, _, _, _, _⟩) (v := .int .i64 N) rfl (by kernel_rfl) (by kernel_rfl) (by kernel_rfl) (fun _ _ _ h => h) (.inl ⟨by rfl, fun w2 hw2 => ?_⟩) ?_
  · have hx : Below wb.drew.heap.size wb.drew w2 := hw2
    have d5 := (CX.out w2 (BB.out.drew.trans (hx.mono BB.out.drew.size))).2.2.2.2.2.1
    clear hw2 hx
    go_simp
  simp only [Act.put, List.setIfInBounds_toArray, List.set_cons_succ, List.set_cons_zero]
  refine anyM_take (i := 7) (oi := ⟨some 130, _, _, _, _, _⟩) (v := .pointer (some ⟨w.heap.size, 6, none⟩)) rfl (by kernel_rfl) (by kernel_rfl) (by kernel_rfl) (fun _ _ _ h => h) (.inl ⟨by rfl, fun w2 hw2 => ?_⟩) ?_
  · clear hw2
    go_simp
  simp only [Act.put, List.setIfInBounds_toArray, List.set_cons_succ, List.set_cons_zero]
  refine anyM_take (i := 8) (oi := ⟨some 131, _, _, _, _, _⟩) (v := .string SC) rfl (by kernel_rfl) (by kernel_rfl) (by kernel_rfl) (fun _ _ _ h => h) (.inl ⟨by rfl, fun w2 hw2 => ?_⟩) ?_
  · have hx : Below wb.drew.heap.size wb.drew w2 := hw2
    have d6 := (CX.out w2 (BB.out.drew.trans (hx.mono BB.out.drew.size))).2.2.2.2.2.2.1
    clear hw2 hx
    go_simp
  simp only [Act.put, List.setIfInBounds_toArray, List.set_cons_succ, List.set_cons_zero]
  refine anyM_take (i := 9) (oi := ⟨some 132, _, _, _, _, _⟩) (v := .pointer (some ⟨w.heap.size, 6, none⟩)) rfl (by kernel_rfl) (by kernel_rfl) (by kernel_rfl) (fun _ _ _ h => h) (.inl ⟨by rfl, fun w2 hw2 => ?_⟩) ?_
  · clear hw2
    go_simp
  simp only [Act.put, List.setIfInBounds_toArray, List.set_cons_succ, List.set_cons_zero]
  refine anyM_take (i := 10) (oi := ⟨some 133, _, _, _, _, _⟩) (v := .string SC) rfl (by kernel_rfl) (by kernel_rfl) (by kernel_rfl) (fun _ _ _ h => h) (.inl ⟨by rfl, fun w2 hw2 => ?_⟩) ?_
  · have hx : Below wb.drew.heap.size wb.drew w2 := hw2
    have d6 := (CX.out w2 (BB.out.drew.trans (hx.mono BB.out.drew.size))).2.2.2.2.2.2.1
    clear hw2 hx
    go_simp
  simp only [Act.put, List.setIfInBounds_toArray, List.set_cons_succ, List.set_cons_zero]
  refine anyM_take (i := 11) (oi := ⟨some 134, _, _, _, _, _⟩) (v := .int .i64 (cn : Int)) rfl (by kernel_rfl) (by kernel_rfl) (by kernel_rfl) (fun _ _ _ h => h) (.inl ⟨by rfl, fun w2 hw2 => ?_⟩) ?_
  · clear hw2
    go_simp
  simp only [Act.put, List.setIfInBounds_toArray, List.set_cons_succ, List.set_cons_zero]
  refine anyM_take (i := 12) (oi := ⟨some 135, _, _, _, _, _⟩) (v := .int .i64 (cm : Int)) rfl (by kernel_rfl) (by kernel_rfl) (by kernel_rfl) (fun _ _ _ h => h) (.inl ⟨by rfl, fun w2 hw2 => ?_⟩) ?_
  · have hE := HE.out
    clear hw2
    go_simp
  simp only [Act.put, List.setIfInBounds_toArray, List.set_cons_succ, List.set_cons_zero]
  refine anyM_take (i := 13) (oi := ⟨some 136, _, _, _, _, _⟩) (v := .string SX) rfl (by kernel_rfl) (by kernel_rfl) (by kernel_rfl) (fun _ _ _ h => h) (.inl ⟨by rfl, fun w2 hw2 => ?_⟩) ?_
  · have hsu := su.out
    clear hw2
    go_simp
  simp only [Act.put, List.setIfInBounds_toArray, List.set_cons_succ, List.set_cons_zero]
  refine anyM_both (i := 2) (j := 14) (o := ⟨some 125, _, _, _, _, _⟩) (o' := ⟨some 137, _, _, _, _, _⟩) (d := 125) (d' := 137)
    (fun v w' => ∃ a c, v = .slice a hm c ∧ hm ≤ c ∧ c ≤ maxLen ∧ BytesIn w' a hm gh) (fun v w' => ∃ a c, v = .slice a cm c ∧ cm ≤ c ∧ c ≤ maxLen ∧ BytesIn w' a cm xs)
    (by kernel_rfl) (by kernel_rfl) (by kernel_rfl) (by decide) rfl rfl rfl rfl (by decide) rfl rfl
    (fun v w w' h ⟨a, c, e, h1, h2, h3⟩ => ⟨a, c, e, h1, h2, bytesIn_later h3 h⟩) (fun v w w' h ⟨a, c, e, h1, h2, h3⟩ => ⟨a, c, e, h1, h2, bytesIn_later h3 h⟩)
    (fun a2 ha2 w2 hw2 => ?_) (fun a2 ha2 w2 hw2 => ?_) (fun v v' wc hwc hv hv' => ?_)
  · obtain ⟨v6, w6, hcv, o6, b6⟩ := CG.out w2
    obtain ⟨ah, ch, rfl, hch, hchm, inh⟩ := o6.bytes'
    obtain rfl | ⟨v9, rfl⟩ := ha2
    · exact ⟨.slice ah hm ch, w6, by go_simp, b6, ah, ch, rfl, hch, hchm, inh⟩
    · exact ⟨.slice ah hm ch, w6, by simp only [Act.put, List.setIfInBounds_toArray, List.set_cons_succ, List.set_cons_zero]; go_simp, b6, ah, ch, rfl, hch, hchm, inh⟩
  · obtain ⟨v6, w6, hcv, o6, b6⟩ := CXS.out w2
    obtain ⟨ah, ch, rfl, hch, hchm, inh⟩ := o6.bytes'
    obtain rfl | ⟨v9, rfl⟩ := ha2
    · exact ⟨.slice ah cm ch, w6, by go_simp, b6, ah, ch, rfl, hch, hchm, inh⟩
    · exact ⟨.slice ah cm ch, w6, by simp only [Act.put, List.setIfInBounds_toArray, List.set_cons_succ, List.set_cons_zero]; go_simp, b6, ah, ch, rfl, hch, hchm, inh⟩
  obtain ⟨ah, ch, rfl, hch, hchm, inh⟩ := hv
  obtain ⟨ax, cx, rfl, hcx, hcxm, inx⟩ := hv'
  simp only [Act.put, List.setIfInBounds_toArray, List.set_cons_succ, List.set_cons_zero]
  have BC := Lib.hid (BB.out.drew.trans (Below.mono (show Below wb.drew.heap.size wb.drew wc from hwc) BB.out.drew.size))
  have INH := Lib.hid inh
  have INX := Lib.hid inx
  clear hwc inh inx BB CXS su HE
  refine anyM_call (i := 15) (o := ⟨some 138, _, _, _, _, _⟩) 11 #[.agg #[.string KA, .string IA, .string MA], .slice ah hm ch, .int .i64 S, .int .i64 N, .slice ax cm cx] (by kernel_rfl) rfl (by rfl) (fun w2 => by go_simp) (fun wd hwd => ?_)
  have bd : Below wc.heap.size wc wd := hwd
  refine (SE.out wd ah ax ch cx hch hchm (bytesIn_later INH.out bd) (bytesIn_later INX.out bd)).mono ?_
  rintro e we ⟨sv, rfl, hpv, hbe⟩
  refine ⟨_, rfl, hbe, ?_⟩
  have PVH := Lib.hid hpv
  have bd5 := BC.out.trans (bd.mono BC.out.size)
  have BE := Lib.hid (bd5.trans (hbe.mono bd5.size))
  have WD := Lib.hid (show wa.heap.size ≤ wd.heap.size from bd5.size)
  clear hpv hwd bd hbe bd5 BC INH INX SE hch hchm hcx hcxm
  simp only [Act.put, List.setIfInBounds_toArray, List.set_cons_succ, List.set_cons_zero]
  refine anyM_take (i := 16) (oi := ⟨some 122, _, _, _, _, _⟩) (v := .tuple #[sv, .int .i64 r]) rfl (by kernel_rfl) (by kernel_rfl) (by kernel_rfl) (fun _ _ _ h => h) (.inl ⟨by rfl, fun w2 hw2 => ?_⟩) ?_
  · clear hw2
    go_simp
  simp only [Act.put, List.setIfInBounds_toArray, List.set_cons_succ, List.set_cons_zero]
  refine anyM_take (i := 17) (oi := ⟨some 139, _, _, _, _, _⟩) (v := sv) rfl (by kernel_rfl) (by kernel_rfl) (by kernel_rfl) (fun _ _ _ h => h) (.inl ⟨by rfl, fun w2 hw2 => ?_⟩) ?_
  · clear hw2
    go_simp
  simp only [Act.put, List.setIfInBounds_toArray, List.set_cons_succ, List.set_cons_zero]
  refine anyM_take (i := 18) (oi := ⟨some 140, _, _, _, _, _⟩) (v := .int .i64 r) rfl (by kernel_rfl) (by kernel_rfl) (by kernel_rfl) (fun _ _ _ h => h) (.inl ⟨by rfl, fun w2 hw2 => ?_⟩) ?_
  · clear hw2
    go_simp
  simp only [Act.put, List.setIfInBounds_toArray, List.set_cons_succ, List.set_cons_zero]
  refine anyM_take (i := 19) (oi := ⟨some 20, _, _, _, _, _⟩) (v := sv) rfl (by kernel_rfl) (by kernel_rfl) (by kernel_rfl) (fun _ _ _ h => h) (.inl ⟨by rfl, fun w2 hw2 => ?_⟩) ?_
  · clear hw2
    go_simp
  simp only [Act.put, List.setIfInBounds_toArray, List.set_cons_succ, List.set_cons_zero]
  refine anyM_take (i := 20) (oi := ⟨some 7, _, _, _, _, _⟩) (v := .int .i64 r) rfl (by kernel_rfl) (by kernel_rfl) (by kernel_rfl) (fun _ _ _ h => h) (.inl ⟨by rfl, fun w2 hw2 => ?_⟩) ?_
  · clear hw2
    go_simp
  simp only [Act.put, List.setIfInBounds_toArray, List.set_cons_succ, List.set_cons_zero]
  refine anyM_done (by kernel_rfl) (fun wf hwf => ?_)
  have bf := Lib.hid (show Below we.heap.size we wf from hwf)
  have BF := Lib.hid (BE.out.trans (bf.out.mono BE.out.size))
  clear hwf BE
  rcases HPV.out with hr | ⟨rfl, k1, iv1, mk1, s, hK, hI, hM, rfl, hs1, hs4, hsm, ⟨h0, h1⟩, hform, hn4, hpvs⟩
  · have hrb : (r != 0) = true := bne_iff_ne.2 hr
    clear PVH HPV hr CX CA CB CN VG VX WD bf CG
    go_wp2_with fail
    go_ret
    exact ⟨rfl, BT.out.trans (BF.out.mono BT.out.size)⟩
  obtain ⟨g, z, c', rfl, hg, hc', hcm', ra⟩ := hpvs _ _ _ PVH.out
  have RA := Lib.hid (ra.later bf.out)
  have OPA := Lib.hid (fun (w' : World) (g z c : Nat) (hc : hm + (cm + 16) ≤ c) (hcm : c ≤ maxLen) (hR : RowAt w' g z (hm + (cm + 16)) (packF k1 iv1 mk1 gh xs N hm s cm)) => seal_then k1 iv1 mk1 gh xs hm cm s N (by omega) (by omega) hs1 hs4 hsm h0 h1 hform hn4 w' g z c hc hcm hR)
  have OPB := Lib.hid (fun (w' : World) (g z c : Nat) (hc : hm + (cm + 16) ≤ c) (hcm : c ≤ maxLen) (hR : RowAt w' g z (hm + (cm + 16)) (packF kb ib mb gh xs N hm s cm)) => seal_then kb ib mb gh xs hm cm s N (by omega) (by omega) hs1 hs4 hsm h0 h1 hform hn4 w' g z c hc hcm hR)
  have OPN := Lib.hid (fun (w' : World) (g z c : Nat) (hc : hm + (cm + 16) ≤ c) (hcm : c ≤ maxLen) (hR : RowAt w' g z (hm + (cm + 16)) (packF kn iN mn gh xs N hm s cm)) => seal_then kn iN mn gh xs hm cm s N (by omega) (by omega) hs1 hs4 hsm h0 h1 hform hn4 w' g z c hc hcm hR)
  have SOB := Lib.hid (seal_fine kb ib mb gh xs hm cm s N (by omega) (by omega) hs1 hs4 hsm h0 h1 hform hn4)
  have SON := Lib.hid (seal_fine kn iN mn gh xs hm cm s N (by omega) (by omega) hs1 hs4 hsm h0 h1 hform hn4)
  unfold SealOk kysC at SOB SON
  unfold kysC at OPA OPB OPN
  rw [← hK, ← hI, ← hM] at OPA
  rw [EB.out.1, EB.out.2.1, EB.out.2.2] at OPB SOB
  rw [EN.out.1, EN.out.2.1, EN.out.2.2] at OPN SON
  clear PVH HPV hpvs ra hg WD bf hK hI hM hform EA EB EN PV
  generalize packF k1 iv1 mk1 gh xs N hm s cm = PA at *
  generalize packF kb ib mb gh xs N hm s cm = PB at *
  generalize packF kn iN mn gh xs N hm s cm = PN at *
  have hwp : IntKind.wrap .i64 ((hm : Int) - (s : Int)) = (hm : Int) - (s : Int) := by simp only [IntKind.wrap, IntKind.bits, IntKind.signed]; simp; omega
  have OQ := Lib.hid (OPA.out wf g z c' hc' hcm' RA.out)
  obtain ⟨x0, x1, x2, x3, x4, x5, x6, x7, x8⟩ := CX.out wf BF.out
  obtain ⟨k0, k1_, k2⟩ := CA.out wf BF.out
  clear x0 x1 x2 x3 x6 x7 x8 OPA RA
  go_upto_region 17 with (go_at_call 14; refine OQ.out.mono ?_; rintro e wg ⟨g1, c1, r1, rfl, i1, i2, hb⟩; have I1 := Lib.hid i1; have J2 := Lib.hid i2; have BG := Lib.hid (BF.out.trans (hb.mono BF.out.size)); clear i1 i2 hb)
  clear x4 x5 k0 k1_ k2 OQ CA hc' hcm'
  obtain ⟨vcb, wcb, hcvb, ocb, bcb⟩ := CG.out wg
  obtain ⟨ahb, chb, rfl, hchb, hchmb, inhb⟩ := ocb.bytes'
  have IHb := Lib.hid inhb
  have bbb := Lib.hid bcb
  have SQb := Lib.hid (SOB.out wcb ahb (some ⟨r1, 0, none⟩) chb cm hchb hchmb IHb.out (bytesIn_later J2.out bbb.out))
  clear ocb inhb bcb
  obtain ⟨k0, k1_, k2⟩ := CB.out wg BG.out
  obtain ⟨x0, x1, x2, x3, x4, x5, x6, x7, x8⟩ := CX.out wcb (BG.out.trans (bbb.out.mono BG.out.size))
  clear x0 x1 x2 x3 x6 x7 x8
  go_upto_region 18 with (go_at_call 11; refine SQb.out.mono ?_; rintro e wsb ⟨gsb, zsb, csb, rfl, hgsb, hcsb, hcsmb, rasb, hbsb⟩; have bsb := Lib.hid (bbb.out.trans (hbsb.mono bbb.out.size)); have RSb := Lib.hid rasb; clear rasb hbsb hgsb)
  clear hcvb k0 k1_ k2 x4 x5 SQb bbb IHb
  have BSb := Lib.hid (BG.out.trans (bsb.out.mono BG.out.size))
  have OQb := Lib.hid (OPB.out wsb gsb zsb csb hcsb hcsmb RSb.out)
  obtain ⟨k0, k1_, k2⟩ := CB.out wsb BSb.out
  have x5 := (CX.out wsb BSb.out).2.2.2.2.2.1
  go_upto_region 19 with (go_at_call 14; refine OQb.out.mono ?_; rintro e wob ⟨gob, cob, rob, rfl, io1b, io2b, hbob⟩; have bob := Lib.hid (bsb.out.trans (hbob.mono bsb.out.size)); have P1b := Lib.hid io1b; have P2b := Lib.hid io2b; clear io1b io2b hbob)
  clear k0 k1_ k2 x5 OQb RSb bsb BSb hcsb hcsmb hchb hchmb
  have BO := Lib.hid (BG.out.trans (bob.out.mono BG.out.size))
  have I1b := Lib.hid (bytesIn_later I1.out bob.out)
  have J2b := Lib.hid (bytesIn_later J2.out bob.out)
  clear I1 J2 SOB OPB CB
  have J2 := J2b
  obtain ⟨vcn, wcn, hcvn, ocn, bcn⟩ := CG.out wob
  obtain ⟨ahn, chn, rfl, hchn, hchmn, inhn⟩ := ocn.bytes'
  have IHn := Lib.hid inhn
  have bbn := Lib.hid bcn
  have SQn := Lib.hid (SON.out wcn ahn (some ⟨r1, 0, none⟩) chn cm hchn hchmn IHn.out (bytesIn_later J2.out bbn.out))
  clear ocn inhn bcn
  obtain ⟨k0, k1_, k2⟩ := CN.out wob BO.out
  obtain ⟨x0, x1, x2, x3, x4, x5, x6, x7, x8⟩ := CX.out wcn (BO.out.trans (bbn.out.mono BO.out.size))
  clear x0 x1 x2 x3 x6 x7 x8
  go_upto_region 20 with (go_at_call 11; refine SQn.out.mono ?_; rintro e wsn ⟨gsn, zsn, csn, rfl, hgsn, hcsn, hcsmn, rasn, hbsn⟩; have bsn := Lib.hid (bbn.out.trans (hbsn.mono bbn.out.size)); have RSn := Lib.hid rasn; clear rasn hbsn hgsn)
  clear hcvn k0 k1_ k2 x4 x5 SQn bbn IHn
  have BSn := Lib.hid (BO.out.trans (bsn.out.mono BO.out.size))
  have OQn := Lib.hid (OPN.out wsn gsn zsn csn hcsn hcsmn RSn.out)
  obtain ⟨k0, k1_, k2⟩ := CN.out wsn BSn.out
  have x5 := (CX.out wsn BSn.out).2.2.2.2.2.1
  go_upto_region 21 with (go_at_call 14; refine OQn.out.mono ?_; rintro e won ⟨gon, con, ron, rfl, io1n, io2n, hbon⟩; have bon := Lib.hid (bsn.out.trans (hbon.mono bsn.out.size)); have P1n := Lib.hid io1n; have P2n := Lib.hid io2n; clear io1n io2n hbon)
  clear k0 k1_ k2 x5 OQn RSn bsn BSn hcsn hcsmn hchn hchmn
  have BP := Lib.hid (BO.out.trans (bon.out.mono BO.out.size))
  have x5 := (CX.out won BP.out).2.2.2.2.2.1
  have v1 := VG.out _ c1 won (bytesIn_later I1b.out bon.out)
  have v2 := VG.out _ cob won (bytesIn_later P1b.out bon.out)
  have v3 := VG.out _ con won P1n.out
  have y1 := VX.out _ cm won (bytesIn_later J2b.out bon.out)
  have y2 := VX.out _ cm won (bytesIn_later P2b.out bon.out)
  have y3 := VX.out _ cm won P2n.out
  clear I1b J2 J2b P1b P2b P1n P2n VG VX SON OPN CN CX
  go_wp2_with fail
  go_ret
  exact ⟨by simp, BT.out.trans (BP.out.mono BT.out.size)⟩
end Go.Proofs.YtjbpjoondmcnlabDoor
