/-
  hkdf: the document's Label.
-/
import Derived.Test.YtebhhonmpoeliaaDoorHkdfE
namespace Go.Proofs.YtebhhonmpoeliaaDoor
open Go Go.RowKit Go.BigFrame
set_option linter.unusedSimpArgs false
set_option linter.unusedVariables false
theorem refLabel_bad (r s t : ByteArray) (x : Int) (hx : x < 0 ∨ 8160 < x) (w : World) :
    Calls Tryd.prog 19 #[.string r, .string s, .string t, .int .i64 x] w fun e w' => e = .returned (.tuple #[.string (strOf (fun _ => 0#8) 0), .int .i64 1]) ∧ w = w' := by
  go_enter Tryd.func19, Tryd.ntmps19
  rcases hx with h | h
  · go_wp2
    go_ret2
    exact ⟨rfl, rfl⟩
  · have h0 : ¬ x < 0 := by omega
    go_wp2
    go_ret2
    exact ⟨rfl, rfl⟩
theorem refLabel_big (r s t : ByteArray) (N : Nat) (hN : N ≤ 8160) (hx : 249 < s.size ∨ 255 < t.size) (w : World) :
    Calls Tryd.prog 19 #[.string r, .string s, .string t, .int .i64 (N : Int)] w fun e w' => e = .returned (.tuple #[.string (strOf (fun _ => 0#8) 0), .int .i64 5]) ∧ w = w' := by
  go_enter Tryd.func19, Tryd.ntmps19
  have h0 : ¬ (N : Int) < 0 := by omega
  have h1 : ¬ (8160 : Int) < (N : Int) := by omega
  by_cases hl : 249 < s.size
  · have h2 : (249 : Int) < (s.size : Int) := by omega
    go_wp2
    go_ret2
    exact ⟨rfl, rfl⟩
  · have h2 : ¬ (249 : Int) < (s.size : Int) := by omega
    have h3 : (255 : Int) < (t.size : Int) := by omega
    go_wp2
    go_ret2
    exact ⟨rfl, rfl⟩
set_option maxHeartbeats 16000000 in
set_option maxRecDepth 100000 in
theorem refLabel_ok (m k N l : Nat) (f g s : Nat → BitVec 8) (w : World) (hm : m ≤ 50000) (hk : k ≤ 255) (hl : l ≤ 249) (hN : N ≤ 8160) :
    Calls Tryd.prog 19 #[.string (strOf f m), .string (strOf s l), .string (strOf g k), .int .i64 (N : Int)] w
      fun e w' => e = .returned (.tuple #[.string (strOf (expB (keyB f m) (infoB N l s k g) (9 + l + 1 + k)) N), .int .i64 0]) ∧ Below w.heap.size w w' := by
  have EX := Lib.hid (fun w' => refExpand_ok f (infoB N l s k g) m (9 + l + 1 + k) N hm (by omega) hN w')
  have j1 := strOf_join (headF N l) tlsF 3 6
  rw [tls_str] at j1
  have j2 := strOf_join (joinb (headF N l) 3 tlsF) s 9 l
  have j3 := strOf_join (joinb (joinb (headF N l) 3 tlsF) 9 s) (fun _ => BitVec.ofNat 8 k) (9 + l) 1
  have j4 := strOf_join (joinb (joinb (joinb (headF N l) 3 tlsF) 9 s) (9 + l) (fun _ => BitVec.ofNat 8 k)) g (9 + l + 1) k
  have z1 := strOf_size s l
  have z2 := strOf_size g k
  have z3 := strOf_size (headF N l) 3
  have z4 := strOf_size (joinb (headF N l) 3 tlsF) 9
  have z5 := strOf_size (joinb (joinb (headF N l) 3 tlsF) 9 s) (9 + l)
  have z6 := strOf_size (joinb (joinb (joinb (headF N l) 3 tlsF) 9 s) (9 + l) (fun _ => BitVec.ofNat 8 k)) (9 + l + 1)
  have z7 := strOf_size (fun _ => BitVec.ofNat 8 k) 1
  obtain ⟨R, hR⟩ : ∃ R, strOf (expB (keyB f m) (infoB N l s k g) (9 + l + 1 + k)) N = R := ⟨_, rfl⟩
  rw [hR] at EX ⊢
  clear hR
  have hinfo : infoB N l s k g = joinb (joinb (joinb (joinb (headF N l) 3 tlsF) 9 s) (9 + l) (fun _ => BitVec.ofNat 8 k)) (9 + l + 1) g := rfl
  rw [hinfo] at EX
  clear hinfo
  have hc3 : (#[.int .u8 ((N : Int) / 256), .int .u8 ((N : Int) % 256), .int .u8 ((l : Int) + 6)] : Array Value) = bytesA (headF N l) 3 := by
    rw [head_cells, n8_nat, n8_nat, n8_nat, BitVec.toNat_ofNat, BitVec.toNat_ofNat, BitVec.toNat_ofNat, show ((N / 256 % 2 ^ 8 : Nat) : Int) = (N : Int) / 256 by omega, show ((N % 2 ^ 8 : Nat) : Int) = (N : Int) % 256 by omega, show (((l + 6) % 2 ^ 8 : Nat) : Int) = (l : Int) + 6 by omega]
  have hcc : n8 (BitVec.ofNat 8 k) = (k : Int) := by rw [n8_nat, BitVec.toNat_ofNat]; omega
  have hv1 : (convert 40 9 (.slice (some ⟨w.heap.size, 0, none⟩) 3 3)).run Tryd.prog (w.alloc (.cells #[.int .u8 ((N : Int) / 256), .int .u8 ((N : Int) % 256), .int .u8 ((l : Int) + 6)] 5)) = .ok (.string (strOf (headF N l) 3)) (w.alloc (.cells #[.int .u8 ((N : Int) / 256), .int .u8 ((N : Int) % 256), .int .u8 ((l : Int) + 6)] 5)) :=
    conv_in (headF N l) _ 3 3 _ (row_bytesIn (by rw [hc3]; exact heap_alloc_last _ _) 3 (Nat.le_refl _) (by unfold maxLen; omega))
  have al1 : Below w.heap.size w (w.alloc (.cells #[.int .u8 ((N : Int) / 256), .int .u8 ((N : Int) % 256), .int .u8 ((l : Int) + 6)] 5)) := (Below.refl _ _).alloc (Nat.le_refl _) _
  have hv2 := conv_one (w.alloc (.cells #[.int .u8 ((N : Int) / 256), .int .u8 ((N : Int) % 256), .int .u8 ((l : Int) + 6)] 5)) (BitVec.ofNat 8 k)
  rw [hcc] at hv2
  simp only [alloc_size] at hv2
  have al2 := al1.alloc (by simp) (.cells #[.int .u8 (k : Int)] 5)
  have AL2 := Lib.hid al2
  clear al1 al2 hc3 hcc
  generalize strOf f m = SF at *
  generalize strOf s l = SL at *
  generalize strOf g k = SG at *
  generalize strOf (headF N l) 3 = S1 at *
  generalize strOf (joinb (headF N l) 3 tlsF) 9 = S2 at *
  generalize strOf (joinb (joinb (headF N l) 3 tlsF) 9 s) (9 + l) = S3 at *
  generalize strOf (fun _ => BitVec.ofNat 8 k) 1 = S4 at *
  generalize strOf (joinb (joinb (joinb (headF N l) 3 tlsF) 9 s) (9 + l) (fun _ => BitVec.ofNat 8 k)) (9 + l + 1) = S5 at *
  generalize strOf (joinb (joinb (joinb (joinb (headF N l) 3 tlsF) 9 s) (9 + l) (fun _ => BitVec.ofNat 8 k)) (9 + l + 1) g) (9 + l + 1 + k) = S6 at *
  go_enter Tryd.func19, Tryd.ntmps19
  have h0 : ¬ (N : Int) < 0 := by omega
  have h1 : ¬ (8160 : Int) < (N : Int) := by omega
  have h2 : ¬ (249 : Int) < (l : Int) := by omega
  have h3 : ¬ (255 : Int) < (k : Int) := by omega
  go_upto_region 5 with fail
  clear h0 h1 h2 h3
  have h61 : ¬ 9223372036854775807 < 9 + l := by omega
  have h62 : ¬ 9223372036854775807 < 9 + l + 1 := by omega
  have h63 : ¬ 9223372036854775807 < 9 + l + 1 + k := by omega
  have hq : Int.tdiv (N : Int) 256 = (N : Int) / 256 := Int.tdiv_eq_ediv_of_nonneg (by omega)
  have hr : Int.tmod (N : Int) 256 = (N : Int) % 256 := Int.tmod_eq_emod_of_nonneg (by omega)
  go_upto_region 6 with fail
  clear hv1 hv2 hq hr h61 h62 h63 j1 j2 j3 j4 z3 z4 z5 z6 z7
  generalize (w.alloc (.cells #[.int .u8 ((N : Int) / 256), .int .u8 ((N : Int) % 256), .int .u8 ((l : Int) + 6)] 5)).alloc (.cells #[.int .u8 (k : Int)] 5) = w2 at *
  go_wp2_with fail
  with_reducible refine (EX.out w2).mono ?_
  rintro e w3 ⟨rfl, hb3⟩
  have B3 := Lib.hid (AL2.out.trans (hb3.mono AL2.out.size))
  clear hb3 EX AL2
  go_wp2_with fail
  go_ret2
  exact ⟨rfl, B3.out⟩
end Go.Proofs.YtebhhonmpoeliaaDoor
