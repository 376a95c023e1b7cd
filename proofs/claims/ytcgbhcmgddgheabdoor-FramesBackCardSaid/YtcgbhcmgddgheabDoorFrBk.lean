/-
  THE LAW FramesBack.
-/
import Derived.Test.YtcgbhcmgddgheabDoorFrYz
import Derived.Test.YtcgbhcmgddgheabDoorFrT
import Derived.Deep.CutBlock
namespace Go.Proofs.YtcgbhcmgddgheabDoor
open Go Go.RowKit Go.BigFrame
set_option linter.unusedSimpArgs false
set_option linter.unusedVariables false
set_option maxRecDepth 100000
def lastK (l : List (Fr × Value)) : Int := match l.getLast? with | some y => y.1.K | none => 1
theorem FrsOwn.grow {w w' : World} {B : Nat} {TT : TypeId} {v v5 v5' : Value} {l : List (Fr × Value)} (h : FrsOwn w B TT v l) (hg : GrownV w w' v5 v5') (hd : ∀ g, v5.ownBlock = some g → v.ownBlock ≠ some g) (hs : ∀ y ∈ l, ∀ g, y.2.ownBlock = some g → y.1.A ≠ [] → v5.ownBlock ≠ some g) : FrsOwn w' B TT v l :=
  ⟨ownsRow_keep h.1 (fun k hk hl => hg.block hl (fun e => hd k e hk)), fun y hy => ⟨spans_kept (h.2 y hy).1 hg.grown.size (fun g hg1 h0 hl => hg.block hl (hs y hy g hg1 h0)), (h.2 y hy).2⟩⟩
theorem OwnS.grow {w w' : World} {B : Nat} {v v6 v6' : Value} {S : ByteArray} (h : OwnS B v S w) (hg : GrownV w w' v6 v6') (hd : ∀ g, v.ownBlock = some g → v6.ownBlock ≠ some g) : OwnS B v S w' := by
  obtain ⟨n, f, ho, e⟩ := h
  refine ⟨n, f, ho.kept hg.grown ?_, e⟩
  cases hv : v.ownBlock with
  | none => exact .inl rfl
  | some g => exact .inr (.inr (fun e2 => hd g hv e2.symm))
theorem OwnS.up {w : World} {B B2 : Nat} {v : Value} {S : ByteArray} (h : OwnS B v S w) (hB : B2 ≤ B) : OwnS B2 v S w := by
  obtain ⟨n, f, ho, e⟩ := h
  refine ⟨n, f, ⟨⟨ho.row.1, ?_⟩, Nat.le_trans hB ho.base⟩, e⟩
  rcases ho.row.2 with h1 | ⟨g, cap, cur, h1, h2, h3⟩
  · exact .inl h1
  · exact .inr ⟨g, cap, cur, h1, Nat.le_trans hB h2, h3⟩
theorem OwnS.nil (w : World) (B : Nat) (hB : B ≤ w.heap.size) : OwnS B (.slice none 0 0) ⟨#[]⟩ w := ⟨0, fun _ => 0#8, Own.nil B _ w hB, rfl⟩
theorem FrsOwn.lt {w : World} {B g : Nat} {TT : TypeId} {v : Value} {l : List (Fr × Value)} (h : FrsOwn w B TT v l) (hg : v.ownBlock = some g) : B ≤ g ∧ g < w.heap.size := by
  rcases h.1.2 with ⟨hv, _⟩ | ⟨g2, cap, cur, hv, hB, hg2, _⟩
  · rw [hv] at hg; cases hg
  · rw [hv] at hg
    have e : g2 = g := own_eq hg
    have := lt_row hg2
    omega
theorem mem_snoc {α : Type} {l : List α} {x : α} {p : α → Prop} (h : ∀ y ∈ l, p y) (hx : p x) : ∀ y ∈ l ++ [x], p y := fun y hy => by
  rcases List.mem_append.1 hy with h1 | h1
  · exact h y h1
  · rw [List.mem_singleton] at h1; rw [h1]; exact hx
/-- Where the first loop stands. -/
structure Mid (w : World) (n : Nat) (v5 v6 : Value) (S : ByteArray) (l : List (Fr × Value)) (wr : World) : Prop where
  own : OwnS w.heap.size v5 S wr
  frs : FrsOwn wr w.heap.size 24 v6 l
  joins : Joins (l.map Prod.fst) S
  len : l.length ≤ n
  size : S.size ≤ 6000
  apart : ∀ g, v5.ownBlock = some g → v6.ownBlock ≠ some g
  low : ∀ y ∈ l, ∀ g, y.2.ownBlock = some g → y.1.A ≠ [] → g < w.heap.size
  few : ∀ y ∈ l, y.1.A.length ≤ 10000000000000
  below : Below w.heap.size w wr
theorem Mid.more {w wr : World} {n m : Nat} {v5 v6 : Value} {S : ByteArray} {l : List (Fr × Value)} (h : Mid w n v5 v6 S l wr) (hm : n ≤ m) {wx : World} (hb : Below wr.heap.size wr wx) : Mid w m v5 v6 S l wx :=
  ⟨h.own.later hb, h.frs.later hb, h.joins, Nat.le_trans h.len hm, h.size, h.apart, h.low, h.few, h.below.trans (hb.mono h.below.size)⟩
set_option maxHeartbeats 32000000 in
theorem back_law (R : Nat → Fr) (U : Nat → Option Addr × Nat) (a : Option Addr) (n c : Nat) (x : Int) (w : World) (hF : FrsIn w a n R U) (hnc : n ≤ c) (hcm : c ≤ maxLen) (tab : Tab w) :
    Calls Tryd.prog 4 #[.slice a n c, .int .i64 x] w fun e w' => e = .returned (.bool true) ∧ Below w.heap.size w w' := by
  have FM := Lib.hid (framed_any w tab)
  have TB := Lib.hid tab
  have HF := Lib.hid hF
  have hn63 : n ≤ 9223372036854775807 := by unfold maxLen at hcm; omega
  have hc63 : c ≤ 9223372036854775807 := by unfold maxLen at hcm; omega
  clear tab hF hcm
  go_enter Tryd.func4, Tryd.ntmps4
  go_wp2_with fail
  with_reducible refine FM.out.mono ?_
  rintro e w1 ⟨rfl, hb1⟩
  have B1 := Lib.hid hb1
  clear hb1 FM
  go_upto_block 0 with fail
  go_cut [5, 6] (fun v5 v6 wx => ∃ (S : ByteArray) (l : List (Fr × Value)), Mid w 20 v5 v6 S l wx)
  case first =>
    go_upto_region 6 with (fail)
    go_loopw [5, 6, 7] (fun s5 s6 s7 wr => ∃ (i : Nat) (S : ByteArray) (l : List (Fr × Value)), i ≤ n ∧ i ≤ 20 ∧ s7 = .int .i64 (i : Int) ∧ Mid w i s5 s6 S l wr) (fun _ _ s7 _ => 20 - (intOf s7).toNat)
    case atStart => exact ⟨0, ⟨#[]⟩, [], by omega, by omega, rfl, ⟨OwnS.nil _ _ B1.out.size, FrsOwn.nil _ _ _, rfl, Nat.le_refl _, by decide, (fun g hg => by cases hg), (fun y hy => by cases hy), (fun y hy => by cases hy), B1.out⟩⟩
    case round =>
      obtain ⟨i, S, l, hin, hi20, rfl, hmid⟩ := hrel
      have MID := Lib.hid hmid
      obtain ⟨a5, c5, rfl, hc5, hm5, _, _⟩ := hmid.own.asText
      obtain ⟨a6, c6, rfl⟩ := own_form hmid.frs.1
      clear hmid
      obtain ⟨z, hz⟩ : ∃ z, S.size = z := ⟨_, rfl⟩
      have hz6 : z ≤ 6000 := by rw [← hz]; exact MID.out.size
      have hcz : z ≤ c5 := by omega
      have hc5' : c5 ≤ 9223372036854775807 := by unfold maxLen at hm5; omega
      rw [hz] at MID ⊢
      have HZ := Lib.hid hz
      clear hz hc5 hm5
      obtain ⟨k, hk⟩ : ∃ k, l.length = k := ⟨_, rfl⟩
      have hk20 : k ≤ 20 := by rw [← hk]; exact Nat.le_trans MID.out.len hi20
      rw [hk] at MID ⊢
      have HK := Lib.hid hk
      clear hk
      by_cases hi : i < n
      rotate_left
      · have hiI : ¬ (i : Int) < (n : Int) := by omega
        go_wp2_with fail
        go_meet
        exact ⟨S, l, MID.out.more hi20 (Below.refl _ _)⟩
      have hiI : (i : Int) < (n : Int) := by omega
      have hi0 : (0 : Int) ≤ (i : Int) := by omega
      by_cases h20 : i < 20
      rotate_left
      · have h20I : ¬ (i : Int) < 20 := by omega
        go_wp2_with fail
        go_meet
        exact ⟨S, l, MID.out.more hi20 (Below.refl _ _)⟩
      have h20I : (i : Int) < 20 := by omega
      by_cases h3 : z < 3000
      rotate_left
      · have h3I : ¬ (z : Int) < 3000 := by omega
        go_wp2_with fail
        go_meet
        exact ⟨S, l, MID.out.more hi20 (Below.refl _ _)⟩
      have h3I : (z : Int) < 3000 := by omega
      obtain ⟨b0, off, rfl, hb0, hrow⟩ := HF.out.row hi
      have each := HF.out.each i hi
      obtain ⟨⟨K, Sx, O, N, C, Fi, D, X, A⟩, hf⟩ : ∃ f, R i = f := ⟨_, rfl⟩
      rw [hf] at hrow each
      obtain ⟨⟨au, cu⟩, hu⟩ : ∃ u, U i = u := ⟨_, rfl⟩
      rw [hu] at hrow each
      dsimp only at hrow each
      clear hf hu
      obtain ⟨hsp, hA, hDm, hXm, hK1, hK2⟩ := each
      obtain ⟨m, hm⟩ : ∃ m, A.length = m := ⟨_, rfl⟩
      rw [hm] at hrow hsp hA
      have HM := Lib.hid hm
      have SPW := Lib.hid hsp
      have hA2 : A.length ≤ 10000000000000 := by omega
      have ROW := Lib.hid hrow
      have HB0 := Lib.hid hb0
      have FA := Lib.hid (fun (w' : World) (hb : Below w.heap.size w w') => hrow.later hb hb0)
      have ULT := Lib.hid (fun (g : Nat) (hg : (Value.slice au m cu).ownBlock = some g) (h0 : A ≠ []) => spans_lt hsp h0 hg)
      have TO := Lib.hid (fun (w' : World) (hb : Below w.heap.size w w') => to_any K Sx O N C Fi D X (.slice au m cu) A w' (hsp.later hb) hA2)
      have DX := Lib.hid (And.intro hDm (And.intro hXm (And.intro hK1 hK2)))
      clear hm hsp hrow hb0 hDm hXm hA2 hK1 hK2
      unfold frC at TO
      obtain ⟨c0, c1, c2, c3, c4, c5', c6', c7, c8⟩ := FA.out wr MID.out.below
      go_upto_region 8 with (fail)
      go_wp2_with fail
      refine (TO.out wr MID.out.below).mono ?_
      rintro e w2 ⟨v2, rfl, sp2, hb2⟩
      obtain ⟨a2, e2, rfl, hc2, _⟩ := sp2.at_
      have MID2 := Lib.hid (MID.out.more (Nat.le_refl i) hb2)
      have PU := Lib.hid (put_any ⟨K, Sx, O, N, C, Fi, D, X, A⟩ (.slice a2 A.length e2) w2 sp2 DX.out.1 DX.out.2.1 DX.out.2.2.1 DX.out.2.2.2 (TB.out.later MID2.out.below))
      have W2S := Lib.hid (show wr.heap.size ≤ w2.heap.size from hb2.size)
      have B5 := Lib.hid (fun (g : Nat) (hg : (Value.slice a5 z c5).ownBlock = some g) => (MID.out.own.lt hg).2)
      have B6 := Lib.hid (fun (g : Nat) (hg : (Value.slice a6 k c6).ownBlock = some g) => (MID.out.frs.lt hg).2)
      clear hb2 sp2 hc2 TO c0 c1 c2 c3 c4 c5' c6' c7 c8
      dsimp only [Fr.cells] at PU
      unfold frC at PU
      rw [HM.out] at PU ⊢
      go_wp2_with fail
      refine PU.out.mono ?_
      rintro e w3 ⟨hpost, hb3⟩
      have MID3 := Lib.hid (MID2.out.more (Nat.le_refl i) hb3)
      have hp : ∃ (e8 : Int) (a8 : Option Addr) (sz c8 : Nat), e = .returned (.tuple #[.slice a8 sz c8, .int .i64 e8]) ∧ sz ≤ 9223372036854775807 ∧ c8 ≤ 9223372036854775807 ∧ (e8 = 2 ∨ (e8 = 0 ∧ ∃ P, putF ⟨K, Sx, O, N, C, Fi, D, X, A⟩ = some P ∧ P.size = sz ∧ OwnS w2.heap.size (.slice a8 sz c8) P w3)) := by
        cases hpf : putF ⟨K, Sx, O, N, C, Fi, D, X, A⟩ with
        | none => rw [hpf] at hpost; exact ⟨2, none, 0, 0, hpost, by omega, by omega, .inl rfl⟩
        | some P =>
          rw [hpf] at hpost
          obtain ⟨v, rfl, ho⟩ := hpost
          obtain ⟨a8, c8, rfl, h1, h2, _⟩ := ho.asText
          unfold maxLen at h2
          exact ⟨0, a8, P.size, c8, rfl, by omega, by omega, .inr ⟨rfl, P, rfl, rfl, ho⟩⟩
      obtain ⟨e8, a8, sz, c8, rfl, hsz63, hc863, hcase⟩ := hp
      have HC := Lib.hid hcase
      have W3S := Lib.hid (show w2.heap.size ≤ w3.heap.size from hb3.size)
      clear hpost hcase hb3 PU MID MID2
      obtain ⟨c0, c1, c2, c3, c4, c5', c6', c7, c8'⟩ := FA.out w3 MID3.out.below
      go_upto_region 9 with (fail)
      go_cut [10] (fun v10 wx => v10 = .bool (decide (l ≠ [] ∧ lastK l = 0 ∧ K = 0)) ∧ wx = w3)
      case first =>
        by_cases hk0 : k = 0
        · have hkI : ¬ (0 : Int) < (k : Int) := by omega
          have hl0 : l = [] := List.length_eq_zero_iff.1 (by rw [HK.out]; exact hk0)
          have HL0 := Lib.hid hl0
          clear hk0 hl0
          go_wp2_with fail
          go_meet
          exact ⟨by rw [decide_eq_false (fun h => h.1 HL0.out)], rfl⟩
        obtain ⟨k', rfl⟩ : ∃ k', k = k' + 1 := ⟨k - 1, by omega⟩
        have hkI : (0 : Int) < ((k' + 1 : Nat) : Int) := by omega
        have hkk : ((k' + 1 : Nat) : Int) - 1 = (k' : Int) := by omega
        have hl0 : l ≠ [] := fun e => by have := HK.out; rw [e] at this; cases this
        have hkl : k' < l.length := by rw [HK.out]; omega
        obtain ⟨g6, e6, hv6, hce6, _, _, hcell⟩ := MID3.out.frs.at hkl
        rw [HK.out] at hv6 hce6
        injection hv6 with q1 _ q3
        subst q1 q3
        have hlast : lastK l = (l[k']'hkl).1.K := by
          unfold lastK
          rw [List.getLast?_eq_getElem?, HK.out, show k' + 1 - 1 = k' by omega, List.getElem?_eq_getElem hkl]
        obtain ⟨LK, hLK⟩ : ∃ K, lastK l = K := ⟨_, rfl⟩
        have HLK := Lib.hid hLK
        have cl : w3.cell? ⟨g6, k' * 9, none⟩ = some (.int .i64 LK) := by rw [← hLK, hlast]; exact hcell 0 (by omega)
        clear hcell hlast hLK hce6
        by_cases hL : LK = 0
        rotate_left
        · have hLb : (LK == 0) = false := beq_eq_false_iff_ne.2 hL
          have HL := Lib.hid hL
          clear hL
          go_wp2_with fail
          go_meet
          exact ⟨by rw [decide_eq_false (fun h => HL.out (HLK.out ▸ h.2.1))], rfl⟩
        have hLb : (LK == 0) = true := beq_iff_eq.2 hL
        have HL := Lib.hid (HLK.out.trans hL)
        have HL0 := Lib.hid hl0
        clear hL hl0
        by_cases hK : K = 0
        rotate_left
        · have hKb : (K == 0) = false := beq_eq_false_iff_ne.2 hK
          have HK0 := Lib.hid hK
          clear hK
          go_wp2_with fail
          go_meet
          exact ⟨by rw [decide_eq_false (fun h => HK0.out h.2.2)], rfl⟩
        have hKb : (K == 0) = true := beq_iff_eq.2 hK
        have HK0 := Lib.hid hK
        clear hK
        go_wp2_with fail
        go_meet
        exact ⟨by rw [decide_eq_true ⟨HL0.out, HL.out, HK0.out⟩], rfl⟩
      obtain ⟨rfl, rfl⟩ := hcut
      obtain ⟨pad, hpad⟩ : ∃ pad, decide (l ≠ [] ∧ lastK l = 0 ∧ K = 0) = pad := ⟨_, rfl⟩
      rw [hpad]
      have PAD := Lib.hid hpad
      clear hpad
      by_cases he : e8 = 0
      rotate_left
      · have heb : (e8 == 0) = false := beq_eq_false_iff_ne.2 he
        clear HC c0 c1 c2 c3 c4 c5' c6' c7 c8'
        go_wp2_with fail
        go_roundw
        case rel => exact ⟨i + 1, S, l, by omega, by omega, by go_num, MID3.out.more (Nat.le_succ i) (Below.refl _ _)⟩
        case measure => (simp [intOf] <;> omega)
      have heb : (e8 == 0) = true := beq_iff_eq.2 he
      obtain ⟨_, P, hpf, hPs, hoP⟩ := HC.out.resolve_left (by omega)
      clear HC he
      by_cases h30 : 3000 < sz
      · have h30I : (3000 : Int) < (sz : Int) := by omega
        clear c0 c1 c2 c3 c4 c5' c6' c7 c8' hpf hPs hoP
        go_wp2_with fail
        go_roundw
        case rel => exact ⟨i + 1, S, l, by omega, by omega, by go_num, MID3.out.more (Nat.le_succ i) (Below.refl _ _)⟩
        case measure => (simp [intOf] <;> omega)
      have h30I : ¬ (3000 : Int) < (sz : Int) := by omega
      cases pad with
      | true =>
        clear c0 c1 c2 c3 c4 c5' c6' c7 c8' hpf hPs hoP
        go_wp2_with fail
        go_roundw
        case rel => exact ⟨i + 1, S, l, by omega, by omega, by go_num, MID3.out.more (Nat.le_succ i) (Below.refl _ _)⟩
        case measure => (simp [intOf] <;> omega)
      | false =>
      obtain ⟨aP, cP, hv8, hcP1, hcP2, hbP, _⟩ := hoP.asText
      rw [hPs] at hv8 hbP hcP1
      injection hv8 with q1 _ q3
      subst q1 q3
      have hs1 : 1 ≤ sz := by rw [← hPs]; exact put_size hpf
      have HPS := Lib.hid hPs
      have HPF := Lib.hid hpf
      have HOP := Lib.hid hoP
      have HBP := Lib.hid hbP
      have hszS : S.size + sz ≤ 100000000 := by rw [HZ.out]; omega
      clear hPs hpf hoP hbP hcP2 c0 c1 c2 c3 c4 c5' c6' c7 c8'
      go_upto_region 12 with (first
        | (refine wpList_append_own (o := ⟨some 76, _, _, _, _, _⟩) rfl _ _ rfl rfl rfl MID3.out.own HBP.out HPS.out hszS ?_
           intro v5' w4 ho4 hg4)
        | fail)
      have oP4 : OwnS w2.heap.size (.slice a8 sz c8) P w4 := HOP.out.grow hg4 (fun g hg e => by have h1 := (HOP.out.lt hg).1; have h2 := B5.out g e; have := W2S.out; omega)
      have frs4 : FrsOwn w4 w.heap.size 24 (.slice a6 k c6) l := MID3.out.frs.grow hg4 (fun g hg => MID3.out.apart g hg) (fun y hy g hg h0 e => by have h1 := MID3.out.low y hy g hg h0; have h2 := (MID3.out.own.lt e).1; omega)
      have BEL4 := Lib.hid (MID3.out.below.trans ((Below.refl w.heap.size wc).grown hg4.grown MID3.out.below.size (fun _ hk => (MID3.out.own.lt hk).1)))
      have AP4 : Hid (∀ g, v5'.ownBlock = some g → (Value.slice a6 k c6).ownBlock ≠ some g) := Lib.hid (fun g hg e => by
        rcases hg4.blk with e1 | ⟨j, e1, hj⟩
        · exact MID3.out.apart g (e1.symm.trans hg) e
        · have h2 := (MID3.out.frs.lt e).2
          rw [hg] at e1; injection e1 with e1; omega)
      have W4S := Lib.hid hg4.grown.size
      obtain ⟨c0, c1, c2, c3, c4, c5', c6', c7, c8'⟩ := FA.out w4 BEL4.out
      have rowg := heap_alloc_last w4 (.cells #[.int .i64 K, .int .i64 Sx, .int .i64 O, .int .i64 N, .int .i64 C, .bool Fi, .string D, .string X, .slice au m cu] 24)
      have belg := (Below.refl w4.heap.size w4).alloc (Nat.le_refl _) (.cells #[.int .i64 K, .int .i64 Sx, .int .i64 O, .int .i64 N, .int .i64 C, .bool Fi, .string D, .string X, .slice au m cu] 24)
      obtain ⟨w5, hw5⟩ : ∃ y, w4.alloc (.cells #[.int .i64 K, .int .i64 Sx, .int .i64 O, .int .i64 N, .int .i64 C, .bool Fi, .string D, .string X, .slice au m cu] 24) = y := ⟨_, rfl⟩
      rw [hw5] at rowg belg
      have OWN5 := Lib.hid (ho4.later belg)
      have LT4 := Lib.hid (fun (g : Nat) (hg : v5'.ownBlock = some g) => (ho4.lt hg).2)
      have FRS5 := Lib.hid (frs4.later belg)
      have P5 := Lib.hid (oP4.later belg)
      have BEL5 := Lib.hid (BEL4.out.trans (belg.mono BEL4.out.size))
      have SPU5 := Lib.hid (SPW.out.later BEL5.out)
      have NE5 : Hid (∀ g, (Value.slice au m cu).ownBlock = some g → A ≠ [] → (Value.slice a6 k c6).ownBlock ≠ some g) := Lib.hid (fun g hg h0 e => by have h1 := ULT.out g hg h0; have h2 := (MID3.out.frs.lt e).1; omega)
      have ROWG := Lib.hid rowg
      have W5S := Lib.hid belg.size
      have hl5 : l.length ≤ 100000 := by rw [HK.out]; omega
      clear oP4 frs4 rowg belg ho4 hg4
      go_upto_region 13 with (first
        | ((try rw [hw5]); refine wpList_append_rfr (o := ⟨some 83, _, _, _, _, _⟩) rfl _ _ rfl rfl w4.heap.size rfl FRS5.out ⟨K, Sx, O, N, C, Fi, D, X, A⟩ au m cu ROWG.out hl5 BEL5.out.size SPU5.out NE5.out ?_
           intro v6' w6 ho6 hg6)
        | fail)
      have BEL6 := Lib.hid (BEL5.out.trans ((Below.refl w.heap.size w5).grown hg6.grown BEL5.out.size (fun _ hk => (FRS5.out.lt hk).1)))
      have P6 := Lib.hid (P5.out.grow hg6 (fun g hg e => by have h1 := (P5.out.lt hg).1; have h2 := B6.out g e; have := W2S.out; omega))
      have hmid6 : Mid w (i + 1) v5' v6' (S ++ P) (l ++ [(⟨K, Sx, O, N, C, Fi, D, X, A⟩, .slice au m cu)]) w6 := ⟨OWN5.out.grow hg6 AP4.out, ho6, by
          rw [List.map_append]
          refine Joins.snoc _ _ _ _ MID3.out.joins HPF.out (fun g hg hg0 hK => of_decide_eq_false PAD.out ⟨(fun e => by rw [e] at hg; cases hg), ?_, hK⟩)
          rw [List.getLast?_map] at hg
          unfold lastK
          cases hy : l.getLast? with
          | none => rw [hy] at hg; cases hg
          | some y => rw [hy] at hg; injection hg with hg; rw [← hg] at hg0; exact hg0,
        by rw [List.length_append]; exact Nat.succ_le_succ MID3.out.len, by rw [size_append, HZ.out, HPS.out]; omega, fun g hg e => by
          rcases hg6.blk with e1 | ⟨j, e1, hj⟩
          · exact AP4.out g hg (e1.symm.trans e)
          · have h2 := LT4.out g hg
            have h3 := W5S.out
            rw [e] at e1; injection e1 with e1; omega, mem_snoc MID3.out.low (fun g hg h0 => ULT.out g hg h0), mem_snoc MID3.out.few (by show A.length ≤ _; rw [HM.out]; exact hA), BEL6.out⟩
      have MID6 := Lib.hid hmid6
      clear hmid6 ho6 hg6 hw5 c0 c1 c2 c3 c4 c5' c6' c7 c8' FRS5 P5 OWN5 ROWG NE5 SPU5 hl5 hszS
      go_upto_region 14 with (fail)
      obtain ⟨k0, hk0, hk1⟩ : ∃ k0 : Nat, wrap64 ((IntKind.u64.wrap x).tmod (sz : Int)) = (k0 : Int) ∧ k0 < sz := by
        have h0 : 0 ≤ IntKind.u64.wrap x ∧ IntKind.u64.wrap x < 18446744073709551616 := by rw [IntKind.wrap_u64]; omega
        have h1 : (IntKind.u64.wrap x).tmod (sz : Int) = (IntKind.u64.wrap x) % (sz : Int) := Int.tmod_eq_emod_of_nonneg h0.1
        have h2 := Int.emod_nonneg (IntKind.u64.wrap x) (show (sz : Int) ≠ 0 by omega)
        have h3 := Int.emod_lt_of_pos (IntKind.u64.wrap x) (show (0 : Int) < (sz : Int) by omega)
        refine ⟨((IntKind.u64.wrap x) % (sz : Int)).toNat, ?_, by omega⟩
        rw [h1]
        unfold wrap64
        omega
      rw [hk0]
      have ru := fun w' : World => run_upto w' a8 k0 sz c8 (by omega) hcP1
      obtain ⟨aP, cP, hv8, _, hcP3, hbP6, _⟩ := P6.out.asText
      rw [HPS.out] at hv8 hbP6
      injection hv8 with q1 _ q3
      subst q1 q3
      have gt := get_own (bx P) a8 k0 c8 w6 (bytesIn_upto hbP6 (by omega)) (by omega) hcP3
      have gc := get_cut (F := bx P) (len := k0) ⟨K, Sx, O, N, C, Fi, D, X, A⟩ P HPF.out (fun i _ _ => by rw [Nat.zero_add]) (by rw [HPS.out]; exact hk1)
      have GC := Lib.hid gc
      have GT := Lib.hid gt
      clear hbP6 hcP3 hk0 gt gc
      go_wp2_with fail
      with_reducible refine GT.out.mono ?_
      rintro e w7 ⟨u7, rfl, sp7, hb7, _⟩
      obtain ⟨a7, c7z, rfl, _, _⟩ := sp7.at_
      have MID7 := Lib.hid (MID6.out.more (Nat.le_refl (i + 1)) hb7)
      clear sp7 hb7 GT ru P6 MID6
      obtain ⟨RR, hRR⟩ : ∃ r, getR (bx P) k0 = r := ⟨_, rfl⟩
      rw [hRR] at GC ⊢
      clear hRR
      obtain ⟨⟨K7, S7, O7, N7, C7, F7, D7, X7, A7⟩, n7, e7⟩ := RR
      dsimp only [Fr.cells]
      unfold frC
      obtain ⟨m7, hm7⟩ : ∃ m, A7.length = m := ⟨_, rfl⟩
      rw [hm7]
      clear hm7
      have rowf := heap_alloc_last w7 (.cells #[.int .i64 K7, .int .i64 S7, .int .i64 O7, .int .i64 N7, .int .i64 C7, .bool F7, .string D7, .string X7, .slice a7 m7 c7z] 33)
      have belf := (Below.refl w7.heap.size w7).alloc (Nat.le_refl _) (.cells #[.int .i64 K7, .int .i64 S7, .int .i64 O7, .int .i64 N7, .int .i64 C7, .bool F7, .string D7, .string X7, .slice a7 m7 c7z] 33)
      go_upto_region 15 with (fail)
      generalize w7.alloc _ = w8 at *
      obtain ⟨d0, _, _, _, _, _, _, _, _⟩ := cells9 rowf
      have MID8 := Lib.hid (MID7.out.more (Nat.le_refl (i + 1)) belf)
      have c0 := (FA.out w8 MID8.out.below).c0
      clear rowf belf MID7
      have gc := GC.out
      clear GC
      by_cases hKk : K = 0 ∧ k0 ≠ 0
      · rw [if_pos hKk] at gc
        obtain ⟨g, hg, _⟩ := gc
        injection hg with g1 g2
        injection g2 with g2 g3
        subst g2 g3
        have hKb : (K == 0) = true := beq_iff_eq.2 hKk.1
        have hK0 := hKk.1
        clear hKk g1
        go_wp2_with fail
        go_roundw
        case rel => exact ⟨i + 1, S ++ P, _, by omega, by omega, by go_num, MID8.out⟩
        case measure => (simp [intOf] <;> omega)
      · rw [if_neg hKk] at gc
        injection gc with g1 g2
        injection g1 with g1 _ _ _ _ _ _ _ _
        injection g2 with g2 g3
        subst g1 g2 g3
        clear hKk
        go_wp2_with fail
        go_roundw
        case rel => exact ⟨i + 1, S ++ P, _, by omega, by omega, by go_num, MID8.out⟩
        case measure => (simp [intOf] <;> omega)
  case rest =>
    obtain ⟨S, l, hmid⟩ := hcut
    have MID := Lib.hid hmid
    obtain ⟨a5, c5, rfl, hc5, hm5, hb5, _⟩ := hmid.own.asText
    obtain ⟨a6, c6, rfl⟩ := own_form hmid.frs.1
    have HB5 := Lib.hid hb5
    have HM5 := Lib.hid hm5
    clear hmid hb5
    obtain ⟨z, hz⟩ : ∃ z, S.size = z := ⟨_, rfl⟩
    have hz6 : z ≤ 6000 := by rw [← hz]; exact MID.out.size
    rw [hz] at MID HB5 hc5 ⊢
    have HZ := Lib.hid hz
    obtain ⟨k, hk⟩ : ∃ k, l.length = k := ⟨_, rfl⟩
    have hk20 : k ≤ 20 := by rw [← hk]; exact MID.out.len
    rw [hk] at MID ⊢
    have HK := Lib.hid hk
    clear hz hk
    have hc63' : c5 ≤ 9223372036854775807 := by unfold maxLen at hm5; omega
    by_cases hl : l = []
    · have hz0 : z = 0 := by
        have h := MID.out.joins
        rw [hl] at h
        have h2 : S = ⟨#[]⟩ := h
        rw [← HZ.out, h2]; rfl
      have hk0 : k = 0 := by rw [← HK.out, hl]; rfl
      subst hz0 hk0
      have AN := Lib.hid (all_none a5 c5 wc)
      clear hl hm5
      go_wp2_with fail
      with_reducible refine AN.out.mono ?_
      rintro e w2 ⟨rfl, hb2⟩
      have END := Lib.hid (MID.out.below.trans (hb2.mono MID.out.below.size))
      clear hb2 AN
      go_wp2_with fail
      go_ret
      exact ⟨rfl, END.out⟩
    have hk1 : 1 ≤ k := by
      rw [← HK.out]
      exact List.length_pos_iff.2 hl
    have AB := Lib.hid (all_back (l.map Prod.fst) (bx S) a5 z c5 wc HB5.out hc5 HM5.out (Joins.rows _ S 0 MID.out.joins (fun i hi => by rw [Nat.zero_add]) (by rw [Nat.zero_add]; exact HZ.out)) (by have := MID.out.joins.some (by simpa using hl); rw [HZ.out] at this; omega) (by rw [List.length_map, HK.out]; omega))
    have hkb : ((k : Int) == 0) = false := beq_eq_false_iff_ne.2 (by omega)
    clear hl hm5
    go_wp2_with fail
    with_reducible refine AB.out.mono ?_
    rintro e w2 ⟨v14, l2, rfl, hmap, hfr2, hb2⟩
    obtain ⟨a4, c4, rfl⟩ := own_form hfr2.1
    have hl2 : l2.length = k := by have h := congrArg List.length hmap; rw [List.length_map, List.length_map, HK.out] at h; exact h
    rw [hl2] at hfr2 ⊢
    have HL2 := Lib.hid hl2
    have HMAP := Lib.hid hmap
    have FR2 := Lib.hid hfr2
    have FR1 := Lib.hid (MID.out.frs.later hb2)
    have BEL2 := Lib.hid (MID.out.below.trans (hb2.mono MID.out.below.size))
    clear hl2 hmap hfr2 hb2 AB
    go_upto_region 23 with (fail)
    clear hkb
    go_loopw [16] (fun s16 wr => ∃ j : Nat, j ≤ k ∧ s16 = .int .i64 (j : Int) ∧ Below w2.heap.size w2 wr) (fun s16 _ => k - (intOf s16).toNat)
    case atStart => exact ⟨0, by omega, rfl, Below.refl _ _⟩
    case round =>
      obtain ⟨j, hj, rfl, hbj⟩ := hrel
      have BJ := Lib.hid hbj
      clear hbj
      by_cases hjk : j < k
      rotate_left
      · obtain rfl : j = k := by omega
        have hjI : ¬ (j : Int) < (j : Int) := by omega
        have END := Lib.hid (BEL2.out.trans (BJ.out.mono BEL2.out.size))
        go_wp2_with fail
        go_ret
        exact ⟨rfl, END.out⟩
      have hjI : (j : Int) < (k : Int) := by omega
      have hj0 : (0 : Int) ≤ (j : Int) := by omega
      have hj1 : j < l.length := by rw [HK.out]; exact hjk
      have hj2 : j < l2.length := by rw [HL2.out]; exact hjk
      have f1 := FR1.out.later BJ.out
      have f2 := FR2.out.later BJ.out
      obtain ⟨g6, e6, hv6, _, _, hg6, hcell6⟩ := f1.at hj1
      obtain ⟨g4, e4, hv4, _, _, hg4, hcell4⟩ := f2.at hj2
      rw [HK.out] at hv6
      rw [HL2.out] at hv4
      injection hv6 with q1 _ q3
      subst q1 q3
      injection hv4 with q1 _ q3
      subst q1 q3
      have F6 := FrAt.of hcell6
      have F4 := FrAt.of hcell4
      have s6 := (f1.2 _ (List.getElem_mem hj1)).1
      have s4 := (f2.2 _ (List.getElem_mem hj2)).1
      have few := MID.out.few _ (List.getElem_mem hj1)
      have heq : (l2[j]'hj2).1 = (l[j]'hj1).1 := by
        have h := congrArg (·[j]?) HMAP.out
        simpa [hj1, hj2] using h
      rw [heq] at F4 s4
      obtain ⟨u4, hu4⟩ : ∃ u, (l2[j]'hj2).2 = u := ⟨_, rfl⟩
      obtain ⟨y6, hy6⟩ : ∃ y, l[j]'hj1 = y := ⟨_, rfl⟩
      rw [hu4] at F4 s4
      rw [hy6] at F4 F6 s4 s6 few
      obtain ⟨⟨K, Sx, O, N, C, Fi, D, X, A⟩, u6⟩ := y6
      dsimp only at F4 F6 s4 s6 few
      obtain ⟨b4, d4, rfl, _, _⟩ := s4.at_
      obtain ⟨b6, d6, rfl, _, _⟩ := s6.at_
      obtain ⟨m, hm⟩ : ∃ m, A.length = m := ⟨_, rfl⟩
      rw [hm] at F4 F6 s4 s6
      have F6' := Lib.hid (show FrAt wr.drew g6 (j * 9) K Sx O N C Fi D X (.slice b6 m d6) from ⟨F6.c0, F6.c1, F6.c2, F6.c3, F6.c4, F6.c5, F6.c6, F6.c7, F6.c8⟩)
      have F4' := Lib.hid (show FrAt wr.drew g4 (j * 9) K Sx O N C Fi D X (.slice b4 m d4) from ⟨F4.c0, F4.c1, F4.c2, F4.c3, F4.c4, F4.c5, F4.c6, F4.c7, F4.c8⟩)
      have S6 := Lib.hid (s6.later (Below.refl _ _).drew)
      have S4 := Lib.hid (s4.later (Below.refl _ _).drew)
      have FEW := Lib.hid few
      have L6 := Lib.hid hg6
      have L4 := Lib.hid hg4
      have FM := Lib.hid (fun (w' : World) (hs : SpansIn w' (.slice b4 m d4) A) => from_any K Sx O N C Fi D X (.slice b4 m d4) A w' hs FEW.out)
      have SM := Lib.hid (fun (w' : World) (v : Value) (h1 : SpansIn w' v A) (h2 : SpansIn w' (.slice b6 m d6) A) => same_spans K Sx O N C Fi D X v (.slice b6 m d6) A w' h1 h2)
      unfold frC at FM SM
      clear f1 f2 hcell6 hcell4 F6 F4 s6 s4 few heq hu4 hy6 hm hg6 hg4 hj1 hj2
      go_upto_region 25 with (fail)
      refine region_anyM mixedOrders ?_
      refine anyM_take (i := 0) (oi := ⟨some 156, _, _, _, _, _⟩) (v := .slice (some ⟨g4, 0, none⟩) k c4) rfl (by kernel_rfl) (by kernel_rfl) (by kernel_rfl) (fun _ _ _ h => h) (.inl ⟨by rfl, fun w2 hw2 => ?_⟩) ?_
      · clear hw2
        go_simp
      simp only [Act.put, List.setIfInBounds_toArray, List.set_cons_succ, List.set_cons_zero]
      refine anyM_take (i := 1) (oi := ⟨some 157, _, _, _, _, _⟩) (v := .int .i64 (j : Int)) rfl (by kernel_rfl) (by kernel_rfl) (by kernel_rfl) (fun _ _ _ h => h) (.inl ⟨by rfl, fun w2 hw2 => ?_⟩) ?_
      · clear hw2
        go_simp
      simp only [Act.put, List.setIfInBounds_toArray, List.set_cons_succ, List.set_cons_zero]
      refine anyM_take (i := 2) (oi := ⟨some 158, _, _, _, _, _⟩) (v := .pointer (some ⟨g4, j * 9, none⟩)) rfl (by kernel_rfl) (by kernel_rfl) (by kernel_rfl) (fun _ _ _ h => h) (.inl ⟨by rfl, fun w2 hw2 => ?_⟩) ?_
      · clear hw2
        go_simp
      simp only [Act.put, List.setIfInBounds_toArray, List.set_cons_succ, List.set_cons_zero]
      refine anyM_take (i := 3) (oi := ⟨some 159, _, _, _, _, _⟩) (v := .agg #[.int .i64 K, .int .i64 Sx, .int .i64 O, .int .i64 N, .int .i64 C, .bool Fi, .string D, .string X, .slice b4 m d4]) rfl (by kernel_rfl) (by kernel_rfl) (by kernel_rfl) (fun _ _ _ h => h) (.inl ⟨by rfl, fun w2 hw2 => ?_⟩) ?_
      · have hx : Below wr.drew.heap.size wr.drew w2 := hw2
        obtain ⟨d0, d1, d2, d3, d4, d5, d6, d7, d8⟩ := F4'.out.later hx L4.out
        clear hw2 hx
        go_simp
      simp only [Act.put, List.setIfInBounds_toArray, List.set_cons_succ, List.set_cons_zero]
      refine anyM_take (i := 5) (oi := ⟨some 161, _, _, _, _, _⟩) (v := .slice (some ⟨g6, 0, none⟩) k c6) rfl (by kernel_rfl) (by kernel_rfl) (by kernel_rfl) (fun _ _ _ h => h) (.inl ⟨by rfl, fun w2 hw2 => ?_⟩) ?_
      · clear hw2
        go_simp
      simp only [Act.put, List.setIfInBounds_toArray, List.set_cons_succ, List.set_cons_zero]
      refine anyM_take (i := 6) (oi := ⟨some 162, _, _, _, _, _⟩) (v := .int .i64 (j : Int)) rfl (by kernel_rfl) (by kernel_rfl) (by kernel_rfl) (fun _ _ _ h => h) (.inl ⟨by rfl, fun w2 hw2 => ?_⟩) ?_
      · clear hw2
        go_simp
      simp only [Act.put, List.setIfInBounds_toArray, List.set_cons_succ, List.set_cons_zero]
      refine anyM_take (i := 7) (oi := ⟨some 163, _, _, _, _, _⟩) (v := .pointer (some ⟨g6, j * 9, none⟩)) rfl (by kernel_rfl) (by kernel_rfl) (by kernel_rfl) (fun _ _ _ h => h) (.inl ⟨by rfl, fun w2 hw2 => ?_⟩) ?_
      · clear hw2
        go_simp
      simp only [Act.put, List.setIfInBounds_toArray, List.set_cons_succ, List.set_cons_zero]
      refine anyM_take (i := 8) (oi := ⟨some 164, _, _, _, _, _⟩) (v := .agg #[.int .i64 K, .int .i64 Sx, .int .i64 O, .int .i64 N, .int .i64 C, .bool Fi, .string D, .string X, .slice b6 m d6]) rfl (by kernel_rfl) (by kernel_rfl) (by kernel_rfl) (fun _ _ _ h => h) (.inl ⟨by rfl, fun w2 hw2 => ?_⟩) ?_
      · have hx : Below wr.drew.heap.size wr.drew w2 := hw2
        obtain ⟨d0, d1, d2, d3, d4, d5, d6, d7, d8⟩ := F6'.out.later hx L6.out
        clear hw2 hx
        go_simp
      simp only [Act.put, List.setIfInBounds_toArray, List.set_cons_succ, List.set_cons_zero]
      refine anyM_call (i := 4) (o := ⟨some 160, _, _, _, _, _⟩) 15 #[.agg #[.int .i64 K, .int .i64 Sx, .int .i64 O, .int .i64 N, .int .i64 C, .bool Fi, .string D, .string X, .slice b4 m d4]] (by kernel_rfl) rfl (by rfl) (fun w2 => by go_simp) (fun w4 hw4 => ?_)
      have b4' : Below wr.drew.heap.size wr.drew w4 := hw4
      have S4' := Lib.hid (S4.out.later b4')
      have S6' := Lib.hid (S6.out.later b4')
      have BJ4 := Lib.hid (BJ.out.drew.trans (b4'.mono BJ.out.size))
      refine (FM.out w4 S4'.out).mono ?_
      rintro e w5 ⟨v, rfl, sv, hb5⟩
      refine ⟨_, rfl, hb5, ?_⟩
      have SV := Lib.hid sv
      have S6'' := Lib.hid (S6'.out.later hb5)
      have BJ5 := Lib.hid (BJ4.out.trans (hb5.mono BJ4.out.size))
      clear b4' sv hb5 hw4 FM
      simp only [Act.put, List.setIfInBounds_toArray, List.set_cons_succ, List.set_cons_zero]
      refine anyM_take (i := 9) (oi := ⟨some 165, _, _, _, _, _⟩) (v := .bool true) rfl (by kernel_rfl) (by kernel_rfl) (by kernel_rfl) (fun _ _ _ h => h) (.inl ⟨by rfl, fun w2 hw2 => ?_⟩) ?_
      · have hx : Below w5.heap.size w5 w2 := hw2
        have sm := SM.out w2 v (SV.out.later hx) (S6''.out.later hx)
        clear hw2
        go_simp
        go_at_call 14
        refine sm.mono ?_
        rintro e w6 ⟨rfl, hb6⟩
        exact ⟨rfl, hb6⟩
      simp only [Act.put, List.setIfInBounds_toArray, List.set_cons_succ, List.set_cons_zero]
      refine anyM_take (i := 10) (oi := ⟨some 166, _, _, _, _, _⟩) (v := .bool false) rfl (by kernel_rfl) (by kernel_rfl) (by kernel_rfl) (fun _ _ _ h => h) (.inl ⟨by rfl, fun w2 hw2 => ?_⟩) ?_
      · clear hw2
        go_simp
      simp only [Act.put, List.setIfInBounds_toArray, List.set_cons_succ, List.set_cons_zero]
      refine anyM_done (by kernel_rfl) (fun w10 hw10 => ?_)
      have BJ10 := Lib.hid (BJ5.out.trans ((show Below w5.heap.size w5 w10 from hw10).mono BJ5.out.size))
      clear hw10
      go_wp2_with fail
      go_roundw
      case rel => exact ⟨j + 1, by omega, by go_num, BJ10.out⟩
      case measure => (simp [intOf] <;> omega)
end Go.Proofs.YtcgbhcmgddgheabDoor
