/-
  FRAMES: the laws' first look (framed); a []bool that came in; spans that fall, one more or the last one longer.
-/
import Derived.Test.YtcgbhcmgddgheabDoorFrS
import Derived.Deep.Slices
import Derived.SizedLaws
namespace Go.Proofs.YtcgbhcmgddgheabDoor
open Go Go.RowKit Go.BigFrame Go.ChangeShapes Go.WideShapes
set_option linter.unusedSimpArgs false
set_option linter.unusedVariables false
set_option maxRecDepth 100000
theorem bytesIn_none (w : World) (p : Nat → BitVec 8) : BytesIn w none 0 p := ⟨by unfold maxLen; omega, .inl rfl⟩
/-- A slice of one's own as bytes that lie somewhere. -/
theorem Own.asIn {B n : Nat} {v : Value} {f : Nat → BitVec 8} {w : World} (h : Own B v n f w) : ∃ a c, v = .slice a n c ∧ n ≤ c ∧ c ≤ maxLen ∧ BytesIn w a n f := by
  by_cases hn : 0 < n
  · obtain ⟨g, c, rfl, hc, hm, hb⟩ := h.bytesIn hn
    exact ⟨_, c, rfl, hc, hm, hb⟩
  · obtain rfl : n = 0 := by omega
    rcases h.row.2 with ⟨rfl, _⟩ | ⟨g, cap, cur, rfl, hB, hg, hnc, hcm, hcs, ht⟩
    · exact ⟨none, 0, rfl, Nat.le_refl _, by unfold maxLen; omega, bytesIn_none w f⟩
    · exact ⟨_, cap, rfl, hnc, hcm, by unfold maxLen; omega, .inl rfl⟩
theorem OwnS.asText {B : Nat} {v : Value} {S : ByteArray} {w : World} (h : OwnS B v S w) : ∃ a c, v = .slice a S.size c ∧ S.size ≤ c ∧ c ≤ maxLen ∧ BytesIn w a S.size (bx S) ∧ ∀ w', Below w.heap.size w w' → (convert 28 9 (.slice a S.size c)).run Tryd.prog w' = .ok (.string S) w' := by
  obtain ⟨n, f, ho, e⟩ := h
  obtain ⟨a, c, rfl, hc, hm, hb⟩ := ho.asIn
  have hs : S.size = n := by rw [e]; exact strOf_size _ _
  subst hs
  have hbx : BytesIn w a S.size (bx S) := by
    refine ⟨hb.1, ?_⟩
    rcases hb.2 with h0 | ⟨k, o, ea, hk, hcell⟩
    · exact .inl h0
    · refine .inr ⟨k, o, ea, hk, fun i hi => ?_⟩
      rw [hcell i hi]
      have h1 : bx S i = f i := by
        have h2 : bx S i = bx (strOf f S.size) i := congrArg (fun x => bx x i) e
        rw [h2, bx_of _ _ _ hi]
      rw [h1]
  refine ⟨a, c, rfl, hc, hm, hbx, fun w' hw => ?_⟩
  have h1 := conv_in (bx S) a S.size c w' (bytesIn_later hbx hw)
  rw [bx_str] at h1
  exact h1
theorem OwnS.asTextN {B n : Nat} {v : Value} {S : ByteArray} {w : World} (h : OwnS B v S w) (hn : S.size = n) : ∃ a c, v = .slice a n c ∧ n ≤ c ∧ c ≤ maxLen ∧ BytesIn w a n (bx S) ∧ ∀ w', Below w.heap.size w w' → (convert 28 9 (.slice a n c)).run Tryd.prog w' = .ok (.string S) w' := by
  subst hn; exact h.asText
structure BoolsIn (w : World) (a : Option Addr) (n : Nat) (g : Nat → Bool) : Prop where
  le : n ≤ maxLen
  cells : n = 0 ∨ ∃ b off, a = some ⟨b, off, none⟩ ∧ b < w.heap.size ∧ ∀ i, i < n → w.cell? ⟨b, off + i, none⟩ = some (.bool (g i))
theorem open_bools {H : Type} {enc : TypeId × Value → H} {w : World} {base : Nat} {v : Value} {d : DataW H} {p : List MemPlace} (hk : Value.okWide Tryd.prog w .any base 48 v)
    (h : DataW.Trod enc Tryd.prog w 0 (fun _ => true) true 48 v d p) : ∃ a n c g, v = .slice a n c ∧ BoolsIn w a n g ∧ n ≤ c ∧ c ≤ maxLen := by
  obtain ⟨a0, len, cap, rfl⟩ := okWide_slice Tryd.underlying48 hk
  obtain ⟨fuel, hf⟩ := h
  have ce : Tryd.prog.cellsOf 4 = 1 := by kernel_rfl
  rcases Go.Deep.open_slice Tryd.underlying48 hf with ⟨hcs, _⟩ | ⟨x, l, c, m, q, D, Pl, hcs, _, hl, hm, hmm, hy, hc⟩
  · have hcs : [Value.slice a0 len cap] = [Value.slice none 0 0] := hcs
    simp only [List.cons.injEq, Value.slice.injEq, and_true] at hcs
    obtain ⟨rfl, rfl, rfl⟩ := hcs
    exact ⟨_, _, _, fun _ => false, rfl, ⟨Nat.zero_le _, .inl rfl⟩, Nat.le_refl _, Nat.zero_le _⟩
  · have hcs : [Value.slice a0 len cap] = [Value.slice (some x) l c] := hcs
    simp only [List.cons.injEq, Value.slice.injEq, and_true] at hcs
    obtain ⟨rfl, rfl, rfl⟩ := hcs
    rw [if_pos rfl] at hmm
    subst hmm
    have e : ∀ i, i < len → ∃ r : Bool, w.cell? (x.add i) = some (.bool r) := fun i hi => by
      obtain ⟨cs', h1, h2⟩ := hc i (by omega)
      rw [ce] at h1
      obtain ⟨_, hlen, hcell⟩ := World.cells?_some h1
      match cs', hlen with
      | [z], _ =>
        obtain ⟨r, hr, _⟩ := DataW.trod_bool (show Tryd.prog.underlying 4 = some .bool from by kernel_rfl) h2
        have h0 := hcell 0 (by omega)
        rw [Go.Deep.add_add, Nat.mul_one, Nat.add_zero] at h0
        simp only [List.cons.injEq, and_true] at hr
        subst hr
        exact ⟨r, h0⟩
    obtain ⟨G, hG⟩ := Go.Deep.choose_lt e
    refine ⟨_, _, _, G, rfl, ⟨Nat.le_trans hl hm, ?_⟩, hl, hm⟩
    by_cases h0 : len = 0
    · exact .inl h0
    · obtain ⟨b, off, spot⟩ := x
      have hz0 := hG 0 (by omega)
      have hspot : spot = none := by simpa [Addr.add] using World.cell?_spot hz0
      subst hspot
      refine .inr ⟨b, off, rfl, ?_, fun i hi => ?_⟩
      · have := World.block_lt_of_cell? w _ hz0
        rw [addr_add] at this
        exact this
      · have := hG i hi
        rw [addr_add] at this
        exact this
/-- The greatest number that may stand behind spans. -/
def nextM : Int → List (Int × Int) → Int
  | most, [] => most
  | _, (a, _) :: l => nextM (a - 2) l
theorem nextM_snoc : ∀ (A : List (Int × Int)) (most : Int) (x : Int × Int), nextM most (A ++ [x]) = x.1 - 2
  | [], _, _ => rfl
  | (a, b) :: l, _, x => nextM_snoc l (a - 2) x
theorem fallF_snoc : ∀ (A : List (Int × Int)) (most : Int) (x : Int × Int), fallF most (A ++ [x]) ↔ fallF most A ∧ 0 ≤ x.1 ∧ x.1 ≤ x.2 ∧ x.2 ≤ nextM most A
  | [], most, (x, y) => by
    show (0 ≤ x ∧ x ≤ y ∧ y ≤ most) ∧ True ↔ True ∧ 0 ≤ x ∧ x ≤ y ∧ y ≤ most
    simp
  | (a, b) :: l, most, x => by
    show (0 ≤ a ∧ a ≤ b ∧ b ≤ most) ∧ fallF (a - 2) (l ++ [x]) ↔ ((0 ≤ a ∧ a ≤ b ∧ b ≤ most) ∧ fallF (a - 2) l) ∧ 0 ≤ x.1 ∧ x.1 ≤ x.2 ∧ x.2 ≤ nextM (a - 2) l
    rw [fallF_snoc l (a - 2) x]
    exact ⟨fun h => ⟨⟨h.1, h.2.1⟩, h.2.2⟩, fun h => ⟨h.1.1, h.1.2, h.2⟩⟩
theorem spC_set (A : List (Int × Int)) (a b x : Int) : (spC (A ++ [(a, b)])).set (A.length * 2) (.int .i64 x) = spC (A ++ [(x, b)]) := by
  rw [spC_snoc, spC_snoc, List.set_append_right _ _ (by rw [spC_len]; exact Nat.le_refl _), spC_len, Nat.sub_self]
  rfl
set_option maxHeartbeats 8000000 in
theorem framed_any (w : World) (tab : Tab w) : Calls Tryd.prog 10 #[] w fun e w' => e = .returned (.bool true) ∧ Below w.heap.size w w' := by
  have p1 := put_any ⟨8, 4, 0, 0, 0, true, ⟨#[97, 98]⟩, ⟨#[]⟩, []⟩ (.slice none 0 0) w (SpansIn.none w) (by decide) (by decide) (by decide) (by decide) tab
  unfold PutPost at p1
  rw [framed1] at p1
  have P1 := Lib.hid (show Calls Tryd.prog 8 #[.agg #[.int .i64 8, .int .i64 4, .int .i64 0, .int .i64 0, .int .i64 0, .bool true, .string ⟨#[97, 98]⟩, .string ⟨#[]⟩, .slice none 0 0]] w fun e w' => (∃ v, e = .returned (.tuple #[v, .int .i64 0]) ∧ OwnS w.heap.size v ⟨#[11, 4, 2, 97, 98]⟩ w') ∧ Below w.heap.size w w' from p1)
  have TB := Lib.hid tab
  clear p1 tab
  go_enter Tryd.func10, Tryd.ntmps10
  go_wp2_with fail
  with_reducible refine P1.out.mono ?_
  rintro e w1 ⟨⟨v1, rfl, o1⟩, hb1⟩
  have O1 := Lib.hid o1
  have B1 := Lib.hid hb1
  have al := (Below.refl w1.heap.size w1).alloc (Nat.le_refl _) (.cells #[.int .i64 9, .int .i64 10, .int .i64 3, .int .i64 5] 50)
  have hl := heap_alloc_last w1 (.cells #[.int .i64 9, .int .i64 10, .int .i64 3, .int .i64 5] 50)
  have sp : SpansIn (w1.alloc (.cells #[.int .i64 9, .int .i64 10, .int .i64 3, .int .i64 5] 50)) (.slice (some ⟨w1.heap.size, 0, none⟩) 2 2) [(9, 10), (3, 5)] := ⟨⟨_, _, rfl, ⟨Nat.le_refl _, by decide⟩, .inr ⟨w1.heap.size, 0, rfl, by simp, fun i hi => by
    rw [cell_of_row _ _ _ _ _ _ hl, cell_of_row _ _ _ _ _ _ hl]
    match i, hi with
    | 0, _ => exact ⟨rfl, rfl⟩
    | 1, _ => exact ⟨rfl, rfl⟩⟩⟩⟩
  have p2 := put_any ⟨2, 0, 0, 1, 0, false, ⟨#[]⟩, ⟨#[]⟩, [(9, 10), (3, 5)]⟩ (.slice (some ⟨w1.heap.size, 0, none⟩) 2 2) _ sp (by decide) (by decide) (by decide) (by decide) (TB.out.later (hb1.trans (al.mono hb1.size)))
  unfold PutPost at p2
  rw [framed2] at p2
  have P2 := Lib.hid (show Calls Tryd.prog 8 #[.agg #[.int .i64 2, .int .i64 0, .int .i64 0, .int .i64 1, .int .i64 0, .bool false, .string ⟨#[]⟩, .string ⟨#[]⟩, .slice (some ⟨w1.heap.size, 0, none⟩) 2 2]] (w1.alloc (.cells #[.int .i64 9, .int .i64 10, .int .i64 3, .int .i64 5] 50)) fun e w' => (∃ v, e = .returned (.tuple #[v, .int .i64 0]) ∧ OwnS (w1.alloc (.cells #[.int .i64 9, .int .i64 10, .int .i64 3, .int .i64 5] 50)).heap.size v ⟨#[2, 10, 1, 1, 1, 2, 2]⟩ w') ∧ Below (w1.alloc (.cells #[.int .i64 9, .int .i64 10, .int .i64 3, .int .i64 5] 50)).heap.size (w1.alloc (.cells #[.int .i64 9, .int .i64 10, .int .i64 3, .int .i64 5] 50)) w' from p2)
  have AL := Lib.hid al
  clear o1 hb1 p2 sp hl al
  go_wp2_with fail
  with_reducible refine P2.out.mono ?_
  rintro e w2 ⟨⟨v2, rfl, o2⟩, hb2⟩
  have BB := Lib.hid (AL.out.trans (hb2.mono AL.out.size))
  obtain ⟨a1, c1, rfl, _, _, _, cv1⟩ := O1.out.asTextN (n := 5) rfl
  obtain ⟨a2, c2, rfl, _, _, _, cv2⟩ := o2.asTextN (n := 7) rfl
  have k1 := cv1 w2 BB.out
  have k2 := cv2 w2 (Below.refl _ _)
  have END := Lib.hid (B1.out.trans (BB.out.mono B1.out.size))
  clear o2 hb2 cv1 cv2 P2 P1 O1
  go_wp2_with fail
  go_ret
  exact ⟨rfl, END.out⟩
end Go.Proofs.YtcgbhcmgddgheabDoor
