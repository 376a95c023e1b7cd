/-
  hkdf: Label, and the document's.
-/
import Derived.Test.YtebhhonmpoeliaaDoorHkdfD
namespace Go.Proofs.YtebhhonmpoeliaaDoor
open Go Go.RowKit Go.BigFrame
set_option linter.unusedSimpArgs false
set_option linter.unusedVariables false
/-- "tls13 ". -/
def tlsF (i : Nat) : BitVec 8 := if i = 0 then 116#8 else if i = 1 then 108#8 else if i = 2 then 115#8 else if i = 3 then 49#8 else if i = 4 then 51#8 else 32#8
theorem tls_str : strOf tlsF 6 = ⟨#[116, 108, 115, 49, 51, 32]⟩ := by kernel_rfl
/-- The first three bytes: a count in two, and how long the name is. -/
def headF (N l i : Nat) : BitVec 8 := if i = 0 then BitVec.ofNat 8 (N / 256) else if i = 1 then BitVec.ofNat 8 N else BitVec.ofNat 8 (l + 6)
/-- What a label's use is. -/
def infoB (N l : Nat) (s : Nat → BitVec 8) (k : Nat) (g : Nat → BitVec 8) : Nat → BitVec 8 := joinb (joinb (joinb (joinb (headF N l) 3 tlsF) 9 s) (9 + l) (fun _ => BitVec.ofNat 8 k)) (9 + l + 1) g
theorem head_cells (N l : Nat) : bytesA (headF N l) 3 = #[.int .u8 (n8 (BitVec.ofNat 8 (N / 256))), .int .u8 (n8 (BitVec.ofNat 8 N)), .int .u8 (n8 (BitVec.ofNat 8 (l + 6)))] := rfl
theorem label_bad (n c k c' : Nat) (a a' : Option Addr) (s : ByteArray) (x : Int) (hx : x < 0 ∨ 8160 < x) (w : World) :
    Calls Tryd.prog 20 #[.slice a n c, .string s, .slice a' k c', .int .i64 x] w fun e w' => e = .returned (.tuple #[.slice none 0 0, .int .i64 1]) ∧ w = w' := by
  go_enter Tryd.func20, Tryd.ntmps20
  rcases hx with h | h
  · go_wp2
    go_ret2
    exact ⟨rfl, rfl⟩
  · have h0 : ¬ x < 0 := by omega
    go_wp2
    go_ret2
    exact ⟨rfl, rfl⟩
theorem label_big (n c k c' N : Nat) (a a' : Option Addr) (s : ByteArray) (hN : N ≤ 8160) (hx : 249 < s.size ∨ 255 < k) (w : World) :
    Calls Tryd.prog 20 #[.slice a n c, .string s, .slice a' k c', .int .i64 (N : Int)] w fun e w' => e = .returned (.tuple #[.slice none 0 0, .int .i64 5]) ∧ w = w' := by
  go_enter Tryd.func20, Tryd.ntmps20
  have h0 : ¬ (N : Int) < 0 := by omega
  have h1 : ¬ (8160 : Int) < (N : Int) := by omega
  by_cases hl : 249 < s.size
  · have h2 : (249 : Int) < (s.size : Int) := by omega
    go_wp2
    go_ret2
    exact ⟨rfl, rfl⟩
  · have h2 : ¬ (249 : Int) < (s.size : Int) := by omega
    have h3 : (255 : Int) < (k : Int) := by omega
    go_wp2
    go_ret2
    exact ⟨rfl, rfl⟩
theorem Own.lower {B B' n : Nat} {v : Value} {f : Nat → BitVec 8} {w : World} (h : Own B v n f w) (hb : B' ≤ B) : Own B' v n f w := by
  refine ⟨⟨h.row.1, ?_⟩, Nat.le_trans hb h.base⟩
  rcases h.row.2 with h1 | ⟨g, cap, cur, e, hB, hg, hnc, hcm, hcs, ht⟩
  · exact .inl h1
  · exact .inr ⟨g, cap, cur, e, Nat.le_trans hb hB, hg, hnc, hcm, hcs, ht⟩
set_option maxHeartbeats 16000000 in
set_option maxRecDepth 100000 in
theorem label_ok (m c k c' N l : Nat) (f g s : Nat → BitVec 8) (a a' : Option Addr) (w : World) (T : TabK w) (hx : BytesIn w a m f) (hc : m ≤ c) (hcm : c ≤ maxLen) (hm : m ≤ 1000000) (hy : BytesIn w a' k g) (hc' : k ≤ c') (hcm' : c' ≤ maxLen) (hk : k ≤ 255) (hl : l ≤ 249) (hN : N ≤ 8160) :
    Calls Tryd.prog 20 #[.slice a m c, .string (strOf s l), .slice a' k c', .int .i64 (N : Int)] w
      fun e w' => ∃ v, e = .returned (.tuple #[v, .int .i64 0]) ∧ Own w.heap.size v N (expB (keyB f m) (infoB N l s k g) (9 + l + 1 + k)) w' ∧ Below w.heap.size w w' := by
  have HX := Lib.hid (fun (w' : World) (h : Below w.heap.size w w') => bytesIn_ext hx h)
  have HY := Lib.hid (fun (w' : World) (h : Below w.heap.size w w') => bytesIn_ext hy h)
  have TK := Lib.hid (fun (w' : World) (h : Below w.heap.size w w') => T.later h)
  have zs := strOf_size s l
  have SS := Lib.hid (fun w' => src_str s l w')
  have ST := Lib.hid (fun w' => src_str tlsF 6 w')
  simp only [tls_str] at ST
  generalize strOf s l = S at *
  clear hx hy T
  go_enter Tryd.func20, Tryd.ntmps20
  have h0 : ¬ (N : Int) < 0 := by omega
  have h1 : ¬ (8160 : Int) < (N : Int) := by omega
  have h2 : ¬ (249 : Int) < (l : Int) := by omega
  have h3 : ¬ (255 : Int) < (k : Int) := by omega
  have hmk := run_make_cap (9 + l + 1 + k) (by omega) w
  have e2 : ((9 + l + 1 + k : Nat) : Int) = 9 + (l : Int) + 1 + (k : Int) := by omega
  rw [e2] at hmk
  clear e2
  go_upto_region 6 with fail
  clear h0 h1 h2 h3 hmk
  have o1 : Own w.heap.size (.slice (some ⟨w.heap.size, 0, none⟩) 0 (9 + l + 1 + k)) 0 (headF N l) (w.alloc (.cells (bytesArr (fun _ => 0#8) (9 + l + 1 + k)) 5)) := Own.of_room (Nat.le_refl _) (by unfold maxLen; omega) (heap_alloc_last _ _)
  have al1 : Below w.heap.size w (w.alloc (.cells (bytesArr (fun _ => 0#8) (9 + l + 1 + k)) 5)) := (Below.refl _ _).alloc (Nat.le_refl _) _
  obtain ⟨w1, hw1⟩ : ∃ w1, w.alloc (.cells (bytesArr (fun _ => 0#8) (9 + l + 1 + k)) 5) = w1 := ⟨_, rfl⟩
  rw [hw1] at o1 al1
  simp only [hw1]
  have O1 := Lib.hid o1
  have B1 := Lib.hid al1
  clear hw1 o1 al1
  -- the head
  have hc3 : (#[.int .u8 ((N : Int) / 256), .int .u8 ((N : Int) % 256), .int .u8 (6 + (l : Int))] : Array Value) = bytesA (headF N l) 3 := by
    rw [head_cells, n8_nat, n8_nat, n8_nat, BitVec.toNat_ofNat, BitVec.toNat_ofNat, BitVec.toNat_ofNat, show ((N / 256 % 2 ^ 8 : Nat) : Int) = (N : Int) / 256 by omega, show ((N % 2 ^ 8 : Nat) : Int) = (N : Int) % 256 by omega, show (((l + 6) % 2 ^ 8 : Nat) : Int) = 6 + (l : Int) by omega]
  obtain ⟨w2, hw2⟩ : ∃ w2, w1.alloc (.cells #[.int .u8 ((N : Int) / 256), .int .u8 ((N : Int) % 256), .int .u8 (6 + (l : Int))] 5) = w2 := ⟨_, rfl⟩
  have al2 : Below w1.heap.size w1 w2 := by rw [← hw2]; exact (Below.refl _ _).alloc (Nat.le_refl _) _
  have row2 : w2.heap[w1.heap.size]? = some (.cells (bytesA (headF N l) 3) 5 (0, 0)) := by rw [← hw2, hc3]; exact heap_alloc_last _ _
  have S2 := Lib.hid (src_in (row_bytesIn row2 3 (Nat.le_refl _) (by unfold maxLen; omega)) 3)
  have O2 := Lib.hid (O1.out.later al2)
  have B2 := Lib.hid (B1.out.trans (al2.mono B1.out.size))
  have HW2 := Lib.hid hw2
  clear hc3 hw2 al2 row2 O1 B1
  go_upto_region 7 with (first
    | (at_builtin; simp only [HW2.out]; refine wpList_append_bytes (o := ⟨some 44, _, _, _, _, _⟩) rfl _ _ 40 rfl rfl rfl O2.out S2.out (by omega) ?_; intro v3 w3 o3 g3)
    | fail)
  rw [joinb_zero, Nat.zero_add] at o3
  have O3 := Lib.hid o3
  have B3 := Lib.hid (B2.out.trans (g3.below O2.out))
  clear o3 g3 O2 B2 S2 HW2
  -- the prefix
  go_upto_region 8 with (first
    | (at_builtin; refine wpList_append_bytes (o := ⟨some 46, _, _, _, _, _⟩) rfl _ _ 9 rfl rfl rfl O3.out (ST.out w3) (by omega) ?_; intro v4 w4 o4 g4)
    | fail)
  have O4 := Lib.hid o4
  have B4 := Lib.hid (B3.out.trans (g4.below O3.out))
  clear o4 g4 O3 B3 ST
  -- the name
  go_upto_region 9 with (first
    | (at_builtin; refine wpList_append_bytes (o := ⟨some 49, _, _, _, _, _⟩) rfl _ _ 9 rfl rfl rfl O4.out (SS.out w4) (by omega) ?_; intro v5 w5 o5 g5)
    | fail)
  have O5 := Lib.hid o5
  have B5 := Lib.hid (B4.out.trans (g5.below O4.out))
  clear o5 g5 O4 B4 SS
  -- the count
  have hcc : (k : Int) = n8 (BitVec.ofNat 8 k) := by rw [n8_nat, BitVec.toNat_ofNat]; omega
  obtain ⟨w6, hw6⟩ : ∃ w6, w5.alloc (.cells #[.int .u8 (k : Int)] 5) = w6 := ⟨_, rfl⟩
  have al6 : Below w5.heap.size w5 w6 := by rw [← hw6]; exact (Below.refl _ _).alloc (Nat.le_refl _) _
  have sr := src_one_new w5 (BitVec.ofNat 8 k)
  rw [← hcc, hw6] at sr
  have S6 := Lib.hid sr
  have O6 := Lib.hid (O5.out.later al6)
  have B6 := Lib.hid (B5.out.trans (al6.mono B5.out.size))
  have HW6 := Lib.hid hw6
  clear hw6 al6 sr O5 B5 hcc
  go_upto_region 10 with (first
    | (at_builtin; simp only [HW6.out]; refine wpList_append_bytes (o := ⟨some 55, _, _, _, _, _⟩) rfl _ _ 40 rfl rfl rfl O6.out S6.out (by omega) ?_; intro v7 w7 o7 g7)
    | fail)
  have O7 := Lib.hid o7
  have B7 := Lib.hid (B6.out.trans (g7.below O6.out))
  clear o7 g7 O6 B6 S6 HW6
  -- the context
  have S7 := Lib.hid (src_in (HY.out w7 B7.out) c')
  go_upto_region 11 with (first
    | (at_builtin; refine wpList_append_bytes (o := ⟨some 58, _, _, _, _, _⟩) rfl _ _ 40 rfl rfl rfl O7.out S7.out (by omega) ?_; intro v8 w8 o8 g8)
    | fail)
  have B8 := Lib.hid (B7.out.trans (g8.below O7.out))
  obtain ⟨a8, c8, rfl, hc8, hm8, bi8, _, hg8⟩ := o8.asMine
  have e8 : 3 + 6 + l + 1 + k = 9 + l + 1 + k := by omega
  have EX := Lib.hid (expand_ok m c (9 + l + 1 + k) c8 N f (infoB N l s k g) a a8 w8 (TK.out w8 B8.out) (HX.out w8 B8.out) hc hcm hm (by rw [e8] at bi8; exact bi8) (by omega) hm8 (by omega) hN)
  rw [e8]
  clear hg8 o8 g8 bi8 O7 B7 S7 HX HY TK e8
  go_wp2_with fail
  with_reducible refine EX.out.mono ?_
  rintro e w9 ⟨v9, rfl, o9, hb9⟩
  have B9 := Lib.hid (B8.out.trans (hb9.mono B8.out.size))
  have O9 : Hid (Own w.heap.size v9 N (expB (keyB f m) (infoB N l s k g) (9 + l + 1 + k)) w9) := Lib.hid (o9.lower B8.out.size)
  clear o9 hb9 EX
  go_wp2_with fail
  go_ret2
  exact ⟨v9, rfl, O9.out, B9.out⟩
end Go.Proofs.YtebhhonmpoeliaaDoor
