/-
  FIPS 197's BLOCK HAS ITS TURN.
-/
import Derived.Test.YtpgneoodgoolpaaAesI
import Derived.Test.YtpgneoodgoolpaaAppend
namespace Go.Proofs.Ytpgneoodgoolpaa
open Go Go.RowKit Go.BigFrame
set_option maxRecDepth 100000
def keyB (i : Nat) : BitVec 8 := BitVec.ofNat 8 i
def txtB (i : Nat) : BitVec 8 := BitVec.ofNat 8 (17 * i)
theorem out0 : (W4.byte (turned sbox (sched keyB) (W4.of txtB)) 0) = 0x69#8 := by decide +kernel
theorem out15 : (W4.byte (turned sbox (sched keyB) (W4.of txtB)) 15) = 0x5A#8 := by decide +kernel
theorem apart_kept {w w1 : World} {v v1 u : Value} (hn : NewBlock w w1 v v1) (hd : v.ownBlock = none ∨ u.ownBlock = none ∨ v.ownBlock ≠ u.ownBlock) (hu : ∀ k, u.ownBlock = some k → k < w.heap.size) :
    v1.ownBlock = none ∨ u.ownBlock = none ∨ v1.ownBlock ≠ u.ownBlock := by
  rcases hn with ⟨h, _⟩ | ⟨⟨k, hk, hlt⟩, _⟩
  · rw [h]; exact hd
  · right
    cases hb : u.ownBlock with
    | none => exact .inl rfl
    | some j =>
      right
      have := hu j hb
      rw [hk]
      intro e
      injection e with e
      omega
/-- No key makes noughts alone. -/
theorem sched_ne (b : Nat → BitVec 8) : ∃ i, i < 44 ∧ sched b i ≠ 0#32 := by
  by_cases h0 : sched b 0 = 0#32
  · by_cases h3 : sched b 3 = 0#32
    · refine ⟨4, by omega, ?_⟩
      have e0 : (keyAt b 0).a = 0#32 := h0
      have e3 : (keyAt b 0).d = 0#32 := h3
      show (W4.next sbox (keyAt b 0) (rcon 0)).a ≠ 0#32
      unfold W4.next
      simp only [e0, e3]
      decide +kernel
    · exact ⟨3, by omega, h3⟩
  · exact ⟨0, by omega, h0⟩
theorem own_slice0 {w : World} {B : Nat} {v : Value} {n : Nat} {f : Nat → BitVec 8} (hn : 0 < n) (h : w.ownsRow B 5 1 v n (firsts f n)) :
    ∃ g cap, v = .slice (some ⟨g, 0, none⟩) n cap ∧ B ≤ g ∧ g < w.heap.size ∧ ∀ i, i < n → w.cell? ⟨g, 0 + i, none⟩ = some (.int .u8 (n8 (f i))) := by
  have hc := h
  rcases h.2 with ⟨_, h0⟩ | ⟨g, cap, cur, rfl, hB, hg, _⟩
  · omega
  · refine ⟨g, cap, rfl, hB, lt_of_heap hg, fun i hi => ?_⟩
    have h1 := hc.cells (g := g) rfl i (.int .u8 (n8 (f i))) (by simp [firsts, hi])
    have : ((⟨g, 0, none⟩ : Addr).add i) = ⟨g, 0 + i, none⟩ := by unfold Addr.add; split <;> simp_all
    rw [← this]; exact h1
theorem KeySt.cipher {w0 w : World} {p q : Nat} {b : Nat → BitVec 8} (h : KeySt w0 p q (sched b) w) : CipherAt w p (sched b) :=
  ⟨h.key, sched_ne b, lt_of_heap h.row⟩
theorem Fresh16.cell {w0 w : World} {r : Nat} {b : Nat → BitVec 8} (h : Fresh16 w0 r b w) (i : Nat) (hi : i < 16) : w.cell? ⟨r, i, none⟩ = some (.int .u8 (n8 (b i))) := by
  rw [cell_of_row _ _ _ _ _ _ h.row]; exact b16_get b i hi
set_option maxHeartbeats 4000000 in
theorem turns_any (w : World) : Calls Try.prog 12 #[] w fun e w' => e = .returned (.bool true) ∧ Below w.heap.size w w' := by
  obtain ⟨i0, hi, hz0⟩ : ∃ i0, Try.prog.info? 5 = some i0 ∧ i0.zero = some (.int .u8 0) ∧ i0.size = 1 ∧ i0.bytes = 1 := by
    have h := info_u8
    cases hq : Try.prog.info? 5 with
    | none => simp [hq] at h
    | some i => exact ⟨i, rfl, by simpa [hq] using h⟩
  obtain ⟨hz, hs, hby⟩ := hz0
  have Hi := Lib.hid hi
  have Hz := Lib.hid hz
  have Hs := Lib.hid hs
  have Hy := Lib.hid hby
  clear hi hz hs hby
  go_enter Try.func12, Try.ntmps12
  go_wp2_with fail
  go_loopw [1, 2, 3] (fun v1 v2 i wr => ∃ k : Nat, k ≤ 16 ∧ i = .int .i64 (k : Int) ∧ wr.ownsRow w.heap.size 5 1 v1 k (firsts keyB k) ∧ wr.ownsRow w.heap.size 5 1 v2 k (firsts txtB k)
      ∧ (v1.ownBlock = none ∨ v2.ownBlock = none ∨ v1.ownBlock ≠ v2.ownBlock) ∧ Below w.heap.size w wr) (fun _ _ i _ => 16 - (intOf i).toNat)
  case atStart => exact ⟨0, by omega, rfl, World.ownsRow_nil _ _ _ _, World.ownsRow_nil _ _ _ _, .inl rfl, Below.refl _ _⟩
  case round =>
    obtain ⟨k, hk, rfl, hown1, hown2, hd, hb⟩ := hrel
    have O1 := Lib.hid hown1
    have O2 := Lib.hid hown2
    have D := Lib.hid hd
    have HB := Lib.hid hb
    have hbs := hb.size
    clear hown1 hown2 hd hb
    by_cases hk16 : k < 16
    · have e1 : IntKind.u8.wrap (k : Int) = n8 (keyB k) := by rw [wrap_n8, ofInt_lit8]; rfl
      have e2 : IntKind.u8.wrap (17 * (k : Int)) = n8 (txtB k) := by rw [wrap_n8, show (17 * (k : Int)) = ((17 * k : Nat) : Int) from by omega, ofInt_lit8]; rfl
      go_wp2_with (refine wpList_append_where (o := ⟨some 15, _, _, _, _, _⟩) _ rfl _ _ 27 rfl w.heap.size 5 i0 (.int .u8 0) 1 1 under_bytes Hi.out Hz.out Hs.out Hy.out rfl (by decide) _ k _ rfl (O1.out.alloc _) ⟨wr.heap.size, 0, none⟩ 1 1 [.int .u8 (n8 (keyB k))] rfl rfl ?c1 ?c2 ?c3 ?c4 ?c5 ?_)
      case c1 =>
        intro j u hj
        match j, hj with
        | 0, hj => simp at hj; subst hj; simp [Addr.add]
      case c2 => intro u hu; simp at hu; subst hu; rfl
      case c3 => unfold maxLen; omega
      case c4 => omega
      case c5 => simp; omega
      intro v' w1 hown1 hgrow hnew
      rw [firsts_snoc] at hown1
      have O1a := (O1.out.alloc (.cells #[.int .u8 (n8 (keyB k))] 5))
      have O2a := (O2.out.alloc (.cells #[.int .u8 (n8 (keyB k))] 5))
      have O2b := O2a.kept hgrow (by
        rcases D.out with h | h | h
        · cases hu : u2.ownBlock with
          | none => exact .inl rfl
          | some j => right; rw [h]; simp
        · exact .inl h
        · exact .inr (Ne.symm h))
      have D2 := apart_kept hnew D.out (fun j hj => (O2a.lt j hj).2)
      have B2 := (HB.out.alloc hbs (.cells #[.int .u8 (n8 (keyB k))] 5)).grown hgrow (by simp; omega) (fun j hj => (O1a.lt j hj).1)
      have hbs2 := B2.size
      have Ha := Lib.hid hown1
      have Hb := Lib.hid O2b
      have Hd := Lib.hid D2
      have HB2 := Lib.hid B2
      clear hown1 hgrow hnew O1a O2a O2b D2 B2 O1 O2 D HB e1
      go_wp2_with (refine wpList_append_where (o := ⟨some 21, _, _, _, _, _⟩) _ rfl _ _ 27 rfl w.heap.size 5 i0 (.int .u8 0) 1 1 under_bytes Hi.out Hz.out Hs.out Hy.out rfl (by decide) _ k _ rfl (Hb.out.alloc _) ⟨w1.heap.size, 0, none⟩ 1 1 [.int .u8 (n8 (txtB k))] rfl rfl ?d1 ?d2 ?d3 ?d4 ?d5 ?_)
      case d1 =>
        intro j u hj
        match j, hj with
        | 0, hj => simp at hj; subst hj; simp [Addr.add]
      case d2 => intro u hu; simp at hu; subst hu; rfl
      case d3 => unfold maxLen; omega
      case d4 => omega
      case d5 => simp; omega
      intro v2 w2 hown2 hgrow hnew
      rw [firsts_snoc] at hown2
      have O1a := (Ha.out.alloc (.cells #[.int .u8 (n8 (txtB k))] 5))
      have O2a := (Hb.out.alloc (.cells #[.int .u8 (n8 (txtB k))] 5))
      have O1b := O1a.kept hgrow (by
        rcases Hd.out with h | h | h
        · exact .inl h
        · cases hu : v'.ownBlock with
          | none => exact .inl rfl
          | some j => right; rw [h]; simp
        · exact .inr h)
      have D3 := apart_kept hnew (by rcases Hd.out with h | h | h; exact .inr (.inl h); exact .inl h; exact .inr (.inr (Ne.symm h))) (fun j hj => (O1a.lt j hj).2)
      have D3' : v'.ownBlock = none ∨ v2.ownBlock = none ∨ v'.ownBlock ≠ v2.ownBlock := by rcases D3 with h | h | h; exact .inr (.inl h); exact .inl h; exact .inr (.inr (Ne.symm h))
      have B3 := (HB2.out.alloc hbs2 (.cells #[.int .u8 (n8 (txtB k))] 5)).grown hgrow (by simp; omega) (fun j hj => (O2a.lt j hj).1)
      clear hgrow hnew O1a O2a D3 Ha Hb Hd HB2 e2
      go_wp2_with fail
      go_roundw
      case rel => exact ⟨k + 1, by omega, by go_num, O1b, hown2, D3', B3⟩
      case measure => simp [intOf]; omega
    · obtain rfl : k = 16 := by omega
      obtain ⟨g1, cap1, rfl, hB1, hg1, hc1⟩ := own_slice0 (by omega) O1.out
      obtain ⟨g2, cap2, rfl, hB2, hg2, hc2⟩ := own_slice0 (by omega) O2.out
      have C1 := Lib.hid hc1
      have C2 := Lib.hid hc2
      have h0 : w.heap.size ≤ wr.heap.size := hbs
      clear O1 O2 D hc1 hc2
      go_wp2_with fail
      refine (new_ok keyB g1 0 cap1 wr C1.out hg1).mono ?_
      rintro e w1 ⟨rfl, q, hk1⟩
      have hci := hk1.cipher
      have HK := Lib.hid hk1
      clear hk1
      go_wp2_with fail
      refine (block_ok (sched keyB) txtB wr.heap.size g2 0 cap2 w1 hci (fun i hi => ?_) (Nat.lt_of_lt_of_le hg2 HK.out.below.size)).mono ?_
      · rw [HK.out.below.cell (p := ⟨g2, 0 + i, none⟩) hg2]; exact C2.out i hi
      rintro e w2 ⟨r, rfl, hf⟩
      have k0 := hf.cell 0 (by omega)
      have k15 := hf.cell 15 (by omega)
      rw [out0] at k0
      rw [out15] at k15
      rw [show n8 0x69#8 = 105 from by unfold n8; rfl] at k0
      rw [show n8 0x5A#8 = 90 from by unfold n8; rfl] at k15
      have hfin : Below w.heap.size w w2 := (HB.out.trans (HK.out.below.mono hbs)).trans (hf.below.mono (Nat.le_trans hbs HK.out.below.size))
      have HF := Lib.hid hfin
      clear hfin hf hci HK HB C1 C2
      go_wp2_with fail
      go_ret
      exact ⟨rfl, HF.out⟩
end Go.Proofs.Ytpgneoodgoolpaa
