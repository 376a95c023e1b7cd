/-
  TEXTS PUT TOGETHER: ShaT, HkdfD, HkdfE, HkdfF, GdM, GuardA, GuardB, GuardC.
-/
import Derived.Test.YtjbpjoondmcnlabDoorShaS
import Derived.Test.YtjbpjoondmcnlabDoorMg06
import Derived.Lib.LazyBuf
import Derived.Test.YtjbpjoondmcnlabDoorMg08
set_option maxRecDepth 100000
/-
  THE DOCUMENT's Mac (rhyneref01) IS sha's.
-/
namespace Go.Proofs.YtjbpjoondmcnlabDoor
open Go Go.RowKit Go.BigFrame
set_option linter.unusedSimpArgs false
set_option linter.unusedVariables false
theorem strOf_join (f g : Nat → BitVec 8) (a b : Nat) : strOf f a ++ strOf g b = strOf (joinb f a g) (a + b) := by
  apply ByteArray.ext
  rw [ByteArray.data_append]
  unfold strOf
  apply Array.ext'
  rw [Array.toList_append]
  show strL f a ++ strL g b = strL _ (a + b)
  apply List.ext_getElem?
  intro i
  by_cases hi : i < a
  · rw [List.getElem?_append_left (by rw [strL_length]; exact hi)]
    have h2 : i < a + b := by omega
    simp [strL, joinb, hi, h2]
  · rw [List.getElem?_append_right (by rw [strL_length]; omega), strL_length]
    by_cases h2 : i < a + b
    · have h3 : i - a < b := by omega
      simp [strL, joinb, hi, h2, h3]
    · have h3 : ¬ i - a < b := by omega
      simp [strL, h2, h3]
/-- 'copy' of a text into a row of one's own. -/
theorem copy_text {w : World} {q M : Nat} {g : Nat → BitVec 8} {T : TypeId} (h : w.heap[q]? = some (.cells (bytesA g M) T (0, 0))) (k : Nat) (p : Nat → BitVec 8) (hk : k ≤ M) :
    ∃ w', (Builtin.copy_ #[31, 9] 3 #[.slice (some ⟨q, 0, none⟩) M M, .string (strOf p k)]).run Tryd.prog w = .ok (goInt k) w' ∧ RowSet w q T (bytesA (over8 g 0 k p) M) w' := by
  have hu : Tryd.prog.underlying 31 = some (.slice 5) := by kernel_rfl
  have e : ((strOf p k).data.toList.map fun x => Value.int .u8 (x.toNat : Int)) = cells8 p k := by
    show (strL p k).toArray.toList.map _ = _
    unfold strL cells8
    rw [List.toList_toArray, List.map_map]
    apply List.map_congr_left
    intro i _
    rw [n8_u8]
    rfl
  have hr := run_copy_string (P := Tryd.prog) w 31 9 3 5 q 0 M M (strOf p k) hu (fun w => by
    obtain ⟨i, hi, hz, hsz, hby⟩ := info_u8'
    simp [sizeOf, typeInfo, hi, hsz]) (by rw [strOf_size]; exact hk)
    (fun j hj => by rw [strOf_size] at hj; rw [Nat.zero_add, row_range h (by omega)]; rfl) (fun j hj => frozen_of_row _ _ _ _ _ h)
  rw [strOf_size, e] at hr
  refine ⟨_, hr, ?_, fun j hj => setCells_other q j hj _ _ _, setCells_size q _ _ _, fun B hB => setCells_below B q hB _ _ _ _ (Below.refl _ _)⟩
  obtain ⟨C, h1, h2, h3⟩ := setCells_row q T (cells8 p k) 0 w _ h
  rw [bytesA_size] at h2
  rw [h1]
  congr 2
  apply Array.ext_getElem?
  intro i
  rw [h3, cells8_len, bytesA_size]
  by_cases hi : i < M
  · rw [show (bytesA (over8 g 0 k p) M)[i]? = _ from bytesA_get _ hi]
    unfold over8
    by_cases c : 0 ≤ i ∧ i < 0 + k
    · rw [if_pos ⟨c.1, c.2, hi⟩, if_pos c, cells8_get _ (by omega)]
    · rw [if_neg (fun e => c ⟨e.1, e.2.1⟩), if_neg c, bytesA_get _ hi]
  · rw [if_neg (by omega), Array.getElem?_eq_none (by rw [bytesA_size]; omega), Array.getElem?_eq_none (by rw [bytesA_size]; omega)]
theorem keyB_of (p : Nat → BitVec 8) (m : Nat) (hm : m ≤ 64) : over8 (fun _ => 0#8) 0 m p = keyB p m := by
  funext i
  unfold over8 keyB
  rw [if_pos hm]
  by_cases hi : i < m
  · rw [if_pos (by omega), if_pos hi]; rfl
  · rw [if_neg (by omega), if_neg hi]
theorem keyB_long (p : Nat → BitVec 8) (m : Nat) (hm : ¬ m ≤ 64) : keyB (sumS p m) 32 = keyB p m := by
  funext i
  unfold keyB
  rw [if_pos (by omega), if_neg hm]
theorem made64 (w : World) : (Instr.makeSlice 31 (.int .i64 64) (.int .i64 64)).run Tryd.prog w = .ok (.slice (some ⟨w.heap.size, 0, none⟩) 64 64) (w.alloc (.cells (bytesA (fun _ => 0#8) 64) 5)) :=
  run_make_bytes 64 (by omega) w
theorem made_two64 (w : World) (o : Obj) : ((w.alloc o).alloc o).drew.heap[w.heap.size]? = some o ∧ ((w.alloc o).alloc o).drew.heap[w.heap.size + 1]? = some o ∧ Below w.heap.size w ((w.alloc o).alloc o).drew :=
  ⟨rows_alloc w [o, o] 0, rows_alloc w [o, o] 1, (((Below.refl _ _).alloc (Nat.le_refl _) _).alloc (by simp) _).drew⟩
end Go.Proofs.YtjbpjoondmcnlabDoor
/-
  hkdf: the document's Expand; a call in a region whose operations only add memory.
-/
namespace Go.Proofs.YtjbpjoondmcnlabDoor
open Go Go.RowKit Go.BigFrame
set_option linter.unusedSimpArgs false
set_option linter.unusedVariables false
/-- Number i alone may come up: a call, which may make memory. -/
theorem anyM_call {P : Program} {ops : Array Oper} {Q : Exit → Act → World → Prop} {md : Region.Mode} {i : Nat} {o : Oper} {f : Nat} {l : Array Bool} {a : Act} {w : World} (fn : FuncId) (args : Array Value) (hr : Region.ready md ops l = [i]) (hi : ops[i]? = some o) (hw : Region.wanted o (yielded ops a.tmps) = true)
    (he : ∀ w2, (execOp a.eval o).run P w2 = .ok (.enter fn args) w2)
    (h : ∀ w2, Ext w w2 → Calls P fn args w2 fun e w3 => ∃ v, e = .returned v ∧ Ext w2 w3 ∧ anyM P md ops Q f (l.setIfInBounds i true) (a.put o.dst v) w3) : anyM P md ops Q (f + 1) l a w := by
  refine ⟨fun h0 => (by rw [hr] at h0; cases h0), fun j hj w2 e => ?_⟩
  rw [hr, List.mem_singleton] at hj
  subst hj
  have h2 := h w2 e
  unfold wpOp
  simp only [hi]
  rw [if_pos hw]
  refine .inl ?_
  unfold Oper.wp
  rw [he w2]
  refine Calls.mono h2 fun x w3 hx => ?_
  obtain ⟨v, rfl, h3, h4⟩ := hx
  exact ⟨h3, h4⟩
theorem conv_one (w : World) (x : BitVec 8) : (convert 31 9 (.slice (some ⟨w.heap.size, 0, none⟩) 1 1)).run Tryd.prog (w.alloc (.cells #[.int .u8 (n8 x)] 5)) = .ok (.string (strOf (fun _ => x) 1)) (w.alloc (.cells #[.int .u8 (n8 x)] 5)) := by
  have hrow := heap_alloc_last w (.cells #[.int .u8 (n8 x)] 5)
  exact conv_str (fun _ => x) w.heap.size 0 1 1 _ (fun i hi => by
    obtain rfl : i = 0 := by omega
    rw [cell_of_row _ _ _ _ _ _ hrow]; rfl)
end Go.Proofs.YtjbpjoondmcnlabDoor
/-
  hkdf: Label, and the document's.
-/
namespace Go.Proofs.YtjbpjoondmcnlabDoor
open Go Go.RowKit Go.BigFrame
set_option linter.unusedSimpArgs false
set_option linter.unusedVariables false
/-- "tls13 ". -/
def tlsF (i : Nat) : BitVec 8 := if i = 0 then 116#8 else if i = 1 then 108#8 else if i = 2 then 115#8 else if i = 3 then 49#8 else if i = 4 then 51#8 else 32#8
theorem tls_str : strOf tlsF 6 = ⟨#[116, 108, 115, 49, 51, 32]⟩ := by kernel_rfl
/-- The first three bytes: a count in two, and how long the name is. -/
def headF (N l i : Nat) : BitVec 8 := if i = 0 then BitVec.ofNat 8 (N / 256) else if i = 1 then BitVec.ofNat 8 N else BitVec.ofNat 8 (l + 6)
/-- What a label's use is. -/
def infoB (N l : Nat) (s : Nat → BitVec 8) (k : Nat) (g : Nat → BitVec 8) : Nat → BitVec 8 := joinb (joinb (joinb (joinb (headF N l) 3 tlsF) 9 s) (9 + l) (fun _ => BitVec.ofNat 8 k)) (9 + l + 1) g
theorem head_cells (N l : Nat) : bytesA (headF N l) 3 = #[.int .u8 (n8 (BitVec.ofNat 8 (N / 256))), .int .u8 (n8 (BitVec.ofNat 8 N)), .int .u8 (n8 (BitVec.ofNat 8 (l + 6)))] := rfl
theorem label_bad (n c k c' : Nat) (a a' : Option Addr) (s : ByteArray) (x : Int) (hx : x < 0 ∨ 8160 < x) (w : World) :
    Calls Tryd.prog 57 #[.slice a n c, .string s, .slice a' k c', .int .i64 x] w fun e w' => e = .returned (.tuple #[.slice none 0 0, .int .i64 1]) ∧ w = w' := by
  go_enter Tryd.func57, Tryd.ntmps57
  rcases hx with h | h
  · go_wp2
    go_ret2
    exact ⟨rfl, rfl⟩
  · have h0 : ¬ x < 0 := by omega
    go_wp2
    go_ret2
    exact ⟨rfl, rfl⟩
theorem label_big (n c k c' N : Nat) (a a' : Option Addr) (s : ByteArray) (hN : N ≤ 8160) (hx : 249 < s.size ∨ 255 < k) (w : World) :
    Calls Tryd.prog 57 #[.slice a n c, .string s, .slice a' k c', .int .i64 (N : Int)] w fun e w' => e = .returned (.tuple #[.slice none 0 0, .int .i64 5]) ∧ w = w' := by
  go_enter Tryd.func57, Tryd.ntmps57
  have h0 : ¬ (N : Int) < 0 := by omega
  have h1 : ¬ (8160 : Int) < (N : Int) := by omega
  by_cases hl : 249 < s.size
  · have h2 : (249 : Int) < (s.size : Int) := by omega
    go_wp2
    go_ret2
    exact ⟨rfl, rfl⟩
  · have h2 : ¬ (249 : Int) < (s.size : Int) := by omega
    have h3 : (255 : Int) < (k : Int) := by omega
    go_wp2
    go_ret2
    exact ⟨rfl, rfl⟩
theorem Own.lower {B B' n : Nat} {v : Value} {f : Nat → BitVec 8} {w : World} (h : Own B v n f w) (hb : B' ≤ B) : Own B' v n f w := by
  refine ⟨⟨h.row.1, ?_⟩, Nat.le_trans hb h.base⟩
  rcases h.row.2 with h1 | ⟨g, cap, cur, e, hB, hg, hnc, hcm, hcs, ht⟩
  · exact .inl h1
  · exact .inr ⟨g, cap, cur, e, Nat.le_trans hb hB, hg, hnc, hcm, hcs, ht⟩
set_option maxHeartbeats 16000000 in
set_option maxRecDepth 100000 in
theorem label_ok (m c k c' N l : Nat) (f g s : Nat → BitVec 8) (a a' : Option Addr) (w : World) (T : TabK w) (hx : BytesIn w a m f) (hc : m ≤ c) (hcm : c ≤ maxLen) (hm : m ≤ 1000000) (hy : BytesIn w a' k g) (hc' : k ≤ c') (hcm' : c' ≤ maxLen) (hk : k ≤ 255) (hl : l ≤ 249) (hN : N ≤ 8160) :
    Calls Tryd.prog 57 #[.slice a m c, .string (strOf s l), .slice a' k c', .int .i64 (N : Int)] w
      fun e w' => ∃ v, e = .returned (.tuple #[v, .int .i64 0]) ∧ Own w.heap.size v N (expB (keyB f m) (infoB N l s k g) (9 + l + 1 + k)) w' ∧ Below w.heap.size w w' := by
  have HX := Lib.hid (fun (w' : World) (h : Below w.heap.size w w') => bytesIn_ext hx h)
  have HY := Lib.hid (fun (w' : World) (h : Below w.heap.size w w') => bytesIn_ext hy h)
  have TK := Lib.hid (fun (w' : World) (h : Below w.heap.size w w') => T.later h)
  have zs := strOf_size s l
  have SS := Lib.hid (fun w' => src_str s l w')
  have ST := Lib.hid (fun w' => src_str tlsF 6 w')
  simp only [tls_str] at ST
  generalize strOf s l = S at *
  clear hx hy T
  go_enter Tryd.func57, Tryd.ntmps57
  have h0 : ¬ (N : Int) < 0 := by omega
  have h1 : ¬ (8160 : Int) < (N : Int) := by omega
  have h2 : ¬ (249 : Int) < (l : Int) := by omega
  have h3 : ¬ (255 : Int) < (k : Int) := by omega
  have hmk := run_make_cap (9 + l + 1 + k) (by omega) w
  have e2 : ((9 + l + 1 + k : Nat) : Int) = 9 + (l : Int) + 1 + (k : Int) := by omega
  rw [e2] at hmk
  clear e2
  go_upto_region 6 with fail
  clear h0 h1 h2 h3 hmk
  have o1 : Own w.heap.size (.slice (some ⟨w.heap.size, 0, none⟩) 0 (9 + l + 1 + k)) 0 (headF N l) (w.alloc (.cells (bytesArr (fun _ => 0#8) (9 + l + 1 + k)) 5)) := Own.of_room (Nat.le_refl _) (by unfold maxLen; omega) (heap_alloc_last _ _)
  have al1 : Below w.heap.size w (w.alloc (.cells (bytesArr (fun _ => 0#8) (9 + l + 1 + k)) 5)) := (Below.refl _ _).alloc (Nat.le_refl _) _
  obtain ⟨w1, hw1⟩ : ∃ w1, w.alloc (.cells (bytesArr (fun _ => 0#8) (9 + l + 1 + k)) 5) = w1 := ⟨_, rfl⟩
  rw [hw1] at o1 al1
  simp only [hw1]
  have O1 := Lib.hid o1
  have B1 := Lib.hid al1
  clear hw1 o1 al1
  -- the head
  have hc3 : (#[.int .u8 ((N : Int) / 256), .int .u8 ((N : Int) % 256), .int .u8 (6 + (l : Int))] : Array Value) = bytesA (headF N l) 3 := by
    rw [head_cells, n8_nat, n8_nat, n8_nat, BitVec.toNat_ofNat, BitVec.toNat_ofNat, BitVec.toNat_ofNat, show ((N / 256 % 2 ^ 8 : Nat) : Int) = (N : Int) / 256 by omega, show ((N % 2 ^ 8 : Nat) : Int) = (N : Int) % 256 by omega, show (((l + 6) % 2 ^ 8 : Nat) : Int) = 6 + (l : Int) by omega]
  obtain ⟨w2, hw2⟩ : ∃ w2, w1.alloc (.cells #[.int .u8 ((N : Int) / 256), .int .u8 ((N : Int) % 256), .int .u8 (6 + (l : Int))] 5) = w2 := ⟨_, rfl⟩
  have al2 : Below w1.heap.size w1 w2 := by rw [← hw2]; exact (Below.refl _ _).alloc (Nat.le_refl _) _
  have row2 : w2.heap[w1.heap.size]? = some (.cells (bytesA (headF N l) 3) 5 (0, 0)) := by rw [← hw2, hc3]; exact heap_alloc_last _ _
  have S2 := Lib.hid (src_in (row_bytesIn row2 3 (Nat.le_refl _) (by unfold maxLen; omega)) 3)
  have O2 := Lib.hid (O1.out.later al2)
  have B2 := Lib.hid (B1.out.trans (al2.mono B1.out.size))
  have HW2 := Lib.hid hw2
  clear hc3 hw2 al2 row2 O1 B1
  go_upto_region 7 with (first
    | (at_builtin; simp only [HW2.out]; refine wpList_append_bytes (o := ⟨some 44, _, _, _, _, _⟩) rfl _ _ 31 rfl rfl rfl O2.out S2.out (by omega) ?_; intro v3 w3 o3 g3)
    | fail)
  rw [joinb_zero, Nat.zero_add] at o3
  have O3 := Lib.hid o3
  have B3 := Lib.hid (B2.out.trans (g3.below O2.out))
  clear o3 g3 O2 B2 S2 HW2
  -- the prefix
  go_upto_region 8 with (first
    | (at_builtin; refine wpList_append_bytes (o := ⟨some 46, _, _, _, _, _⟩) rfl _ _ 9 rfl rfl rfl O3.out (ST.out w3) (by omega) ?_; intro v4 w4 o4 g4)
    | fail)
  have O4 := Lib.hid o4
  have B4 := Lib.hid (B3.out.trans (g4.below O3.out))
  clear o4 g4 O3 B3 ST
  -- the name
  go_upto_region 9 with (first
    | (at_builtin; refine wpList_append_bytes (o := ⟨some 49, _, _, _, _, _⟩) rfl _ _ 9 rfl rfl rfl O4.out (SS.out w4) (by omega) ?_; intro v5 w5 o5 g5)
    | fail)
  have O5 := Lib.hid o5
  have B5 := Lib.hid (B4.out.trans (g5.below O4.out))
  clear o5 g5 O4 B4 SS
  -- the count
  have hcc : (k : Int) = n8 (BitVec.ofNat 8 k) := by rw [n8_nat, BitVec.toNat_ofNat]; omega
  obtain ⟨w6, hw6⟩ : ∃ w6, w5.alloc (.cells #[.int .u8 (k : Int)] 5) = w6 := ⟨_, rfl⟩
  have al6 : Below w5.heap.size w5 w6 := by rw [← hw6]; exact (Below.refl _ _).alloc (Nat.le_refl _) _
  have sr := src_one_new w5 (BitVec.ofNat 8 k)
  rw [← hcc, hw6] at sr
  have S6 := Lib.hid sr
  have O6 := Lib.hid (O5.out.later al6)
  have B6 := Lib.hid (B5.out.trans (al6.mono B5.out.size))
  have HW6 := Lib.hid hw6
  clear hw6 al6 sr O5 B5 hcc
  go_upto_region 10 with (first
    | (at_builtin; simp only [HW6.out]; refine wpList_append_bytes (o := ⟨some 55, _, _, _, _, _⟩) rfl _ _ 31 rfl rfl rfl O6.out S6.out (by omega) ?_; intro v7 w7 o7 g7)
    | fail)
  have O7 := Lib.hid o7
  have B7 := Lib.hid (B6.out.trans (g7.below O6.out))
  clear o7 g7 O6 B6 S6 HW6
  -- the context
  have S7 := Lib.hid (src_in (HY.out w7 B7.out) c')
  go_upto_region 11 with (first
    | (at_builtin; refine wpList_append_bytes (o := ⟨some 58, _, _, _, _, _⟩) rfl _ _ 31 rfl rfl rfl O7.out S7.out (by omega) ?_; intro v8 w8 o8 g8)
    | fail)
  have B8 := Lib.hid (B7.out.trans (g8.below O7.out))
  obtain ⟨a8, c8, rfl, hc8, hm8, bi8, _, hg8⟩ := o8.asMine
  have e8 : 3 + 6 + l + 1 + k = 9 + l + 1 + k := by omega
  have EX := Lib.hid (expand_ok m c (9 + l + 1 + k) c8 N f (infoB N l s k g) a a8 w8 (TK.out w8 B8.out) (HX.out w8 B8.out) hc hcm hm (by rw [e8] at bi8; exact bi8) (by omega) hm8 (by omega) hN)
  rw [e8]
  clear hg8 o8 g8 bi8 O7 B7 S7 HX HY TK e8
  go_wp2_with fail
  with_reducible refine EX.out.mono ?_
  rintro e w9 ⟨v9, rfl, o9, hb9⟩
  have B9 := Lib.hid (B8.out.trans (hb9.mono B8.out.size))
  have O9 : Hid (Own w.heap.size v9 N (expB (keyB f m) (infoB N l s k g) (9 + l + 1 + k)) w9) := Lib.hid (o9.lower B8.out.size)
  clear o9 hb9 EX
  go_wp2_with fail
  go_ret2
  exact ⟨v9, rfl, O9.out, B9.out⟩
end Go.Proofs.YtjbpjoondmcnlabDoor
/-
  hkdf: the document's Label.
-/
namespace Go.Proofs.YtjbpjoondmcnlabDoor
open Go Go.RowKit Go.BigFrame
set_option linter.unusedSimpArgs false
set_option linter.unusedVariables false
end Go.Proofs.YtjbpjoondmcnlabDoor
/-
  A Mac of at most 55 bytes by its four turns.
-/
namespace Go.Proofs.YtjbpjoondmcnlabDoor
open Go Go.RowKit
set_option maxRecDepth 100000
/-- Bytes of a list. -/
def tb (l : List Nat) (i : Nat) : BitVec 8 := BitVec.ofNat 8 (l.getD i 0)
theorem tb_agree (f : Nat → BitVec 8) (l : List Nat) (n : Nat) (h : (List.range n).all (fun i => f i == tb l i) = true) : ∀ i, i < n → f i = tb l i := by
  intro i hi
  have h2 := List.all_eq_true.1 h i (List.mem_range.2 hi)
  exact eq_of_beq h2
theorem sch_lo (f : Nat → BitVec 8) (n : Nat) (v : BitVec 32) (h : n < 16) (e : beW (f (4 * n)) (f (4 * n + 1)) (f (4 * n + 2)) (f (4 * n + 3)) = v) : schedW f n = v := (schedW_low f h).trans e
theorem sch_hi (f : Nat → BitVec 8) (i : Nat) {a b c d v : BitVec 32} (h14 : schedW f (i + 14) = a) (h9 : schedW f (i + 9) = b) (h1 : schedW f (i + 1) = c) (h0 : schedW f i = d) (e : sig1 a + b + sig0 c + d = v) : schedW f (i + 16) = v := by
  rw [schedW_high f (by omega)]
  show sig1 (schedW f (i + 14)) + schedW f (i + 9) + sig0 (schedW f (i + 1)) + schedW f i = v
  rw [h14, h9, h1, h0]; exact e
theorem st_next (w : Nat → BitVec 32) (s : W8) (n : Nat) {a b : W8} {x : BitVec 32} (h : W8.steps kW w s n = a) (hw : w n = x) (e : a.step (kW n) x = b) : W8.steps kW w s (n + 1) = b := by
  show (W8.steps kW w s n).step (kW n) (w n) = b
  rw [h, hw]; exact e
theorem sum_two (f : Nat → BitVec 8) (n : Nat) (h1 : 64 ≤ n) (h2 : n ≤ 119) {s1 s2 : W8} (e1 : startW.turn kW f = s1) (e2 : s1.turn kW (fun i => padded f n (64 + i)) = s2) : sumB kW startW f n = stateB s2 := by
  funext i
  unfold sumB stateB
  have hb : (n + 8) / 64 + 1 = 2 := by omega
  rw [hb]
  have e : W8.blocks kW startW (padded f n) 2 = s2 := by
    show (W8.turn kW (W8.turn kW startW (fun i => padded f n (64 * 0 + i))) (fun i => padded f n (64 * 1 + i))) = s2
    rw [W8.turn_congr (f := fun i => padded f n (64 * 0 + i)) (g := f) (fun i hi => by unfold padded; rw [Nat.mul_zero, Nat.zero_add, if_pos (by omega)]), e1, Nat.mul_one]
    exact e2
  rw [e]
theorem mac_of (K p : Nat → BitVec 8) (n : Nat) (hn : n ≤ 55) {s1 s2 s3 s4 : W8} (h1 : startW.turn kW (xorB K 54#8) = s1) (h2 : s1.turn kW (fun i => padded (joinb (xorB K 54#8) 64 p) (64 + n) (64 + i)) = s2)
    (h3 : startW.turn kW (xorB K 92#8) = s3) (h4 : s3.turn kW (fun i => padded (joinb (xorB K 92#8) 64 (stateB s2)) 96 (64 + i)) = s4) (i : Nat) : macB K p n i = stateB s4 i := by
  have j : ∀ (x : BitVec 8) (q : Nat → BitVec 8), startW.turn kW (joinb (xorB K x) 64 q) = startW.turn kW (xorB K x) := fun x q => W8.turn_congr (fun i hi => by unfold joinb; rw [if_pos hi])
  have a : sumS (joinb (xorB K 54#8) 64 p) (64 + n) = stateB s2 := sum_two _ (64 + n) (by omega) (by omega) ((j _ _).trans h1) h2
  have b : sumB kW startW (joinb (xorB K 92#8) 64 (stateB s2)) 96 = stateB s4 := sum_two _ 96 (by omega) (by omega) ((j _ _).trans h3) h4
  unfold macB
  rw [a]
  exact congrFun b i
/-- A key of 32 bytes counts by these alone. -/
theorem keyB_agree {f g : Nat → BitVec 8} {m : Nat} (hm : m ≤ 64) (h : ∀ i, i < m → f i = g i) : keyB f m = keyB g m := by
  funext i
  unfold keyB
  rw [if_pos hm, if_pos hm]
  by_cases hi : i < m
  · rw [if_pos hi, if_pos hi, h i hi]
  · rw [if_neg hi, if_neg hi]
theorem macB_agree {K p q : Nat → BitVec 8} {n : Nat} (h : ∀ i, i < n → p i = q i) : macB K p n = macB K q n := by
  unfold macB
  rw [sumS_congr (f := joinb (xorB K 54#8) 64 p) (g := joinb (xorB K 54#8) 64 q) (fun i hi => by
    unfold joinb
    by_cases h2 : i < 64
    · rw [if_pos h2, if_pos h2]
    · rw [if_neg h2, if_neg h2]; exact h _ (by omega))]
end Go.Proofs.YtjbpjoondmcnlabDoor
/-
  guard: labelled, Of, Next.
-/
namespace Go.Proofs.YtjbpjoondmcnlabDoor
open Go Go.RowKit Go.BigFrame
set_option linter.unusedSimpArgs false
set_option linter.unusedVariables false
def qkey : List Nat := [113, 117, 105, 99, 32, 107, 101, 121]
def qiv : List Nat := [113, 117, 105, 99, 32, 105, 118]
def qhp : List Nat := [113, 117, 105, 99, 32, 104, 112]
def qku : List Nat := [113, 117, 105, 99, 32, 107, 117]
def qcin : List Nat := [99, 108, 105, 101, 110, 116, 32, 105, 110]
def qsin : List Nat := [115, 101, 114, 118, 101, 114, 32, 105, 110]
theorem qkey_str : strOf (tb qkey) 8 = ⟨#[113, 117, 105, 99, 32, 107, 101, 121]⟩ := by kernel_rfl
theorem qiv_str : strOf (tb qiv) 7 = ⟨#[113, 117, 105, 99, 32, 105, 118]⟩ := by kernel_rfl
theorem qhp_str : strOf (tb qhp) 7 = ⟨#[113, 117, 105, 99, 32, 104, 112]⟩ := by kernel_rfl
theorem qku_str : strOf (tb qku) 7 = ⟨#[113, 117, 105, 99, 32, 107, 117]⟩ := by kernel_rfl
theorem qcin_str : strOf (tb qcin) 9 = ⟨#[99, 108, 105, 101, 110, 116, 32, 105, 110]⟩ := by kernel_rfl
theorem qsin_str : strOf (tb qsin) 9 = ⟨#[115, 101, 114, 118, 101, 114, 32, 105, 110]⟩ := by kernel_rfl
/-- n bytes of a secret for a use. -/
def lblB (f : Nat → BitVec 8) (m N l : Nat) (s : Nat → BitVec 8) : Nat → BitVec 8 := expB (keyB f m) (infoB N l s 0 (fun _ => 0#8)) (9 + l + 1 + 0)
theorem str_none (f : Nat → BitVec 8) : strOf f 0 = ⟨#[]⟩ := rfl
set_option maxRecDepth 100000 in
theorem labelled_ok (f s : Nat → BitVec 8) (m l N : Nat) (hm : m ≤ 50000) (hl : l ≤ 249) (hN : N ≤ 8160) (w : World) (T : TabK w) :
    Calls Tryd.prog 42 #[.string (strOf f m), .string (strOf s l), .int .i64 (N : Int)] w fun e w' => e = .returned (.tuple #[.string (strOf (lblB f m N l s) N), .int .i64 0]) ∧ Below w.heap.size w w' := by
  obtain ⟨v1, w1, hcv, o1, b1⟩ := conv_ownZ f m (by omega) w w.heap.size (Nat.le_refl _)
  obtain ⟨a1, c1, rfl, hc1, hm1, bi1, hg1⟩ := o1.asBytes
  have LB := Lib.hid (label_ok m c1 0 0 N l f (fun _ => 0#8) s a1 none w1 (T.later b1) bi1 hc1 hm1 (by omega) (nil_in _ _) (Nat.le_refl _) (Nat.zero_le _) (by omega) hl hN)
  have B1 := Lib.hid b1
  obtain ⟨R, hR⟩ : ∃ R, strOf (lblB f m N l s) N = R := ⟨_, rfl⟩
  rw [hR]
  have HR := Lib.hid hR
  generalize strOf f m = SF at *
  generalize strOf s l = SL at *
  clear o1 b1 hg1 bi1 T hR
  go_enter Tryd.func42, Tryd.ntmps42
  go_wp2_with fail
  clear hcv
  with_reducible refine LB.out.mono ?_
  rintro e w2 ⟨v2, rfl, o2, hb2⟩
  obtain ⟨a2, c2, rfl, hc2, hm2, bi2, _, hg2⟩ := o2.asMine
  have hcv2 := conv_in (lblB f m N l s) a2 N c2 w2 bi2
  rw [HR.out] at hcv2
  have B2 := Lib.hid (B1.out.trans (hb2.mono B1.out.size))
  clear o2 hb2 hg2 bi2 LB
  go_wp2_with fail
  go_ret2
  exact ⟨rfl, B2.out⟩
theorem lab_of (f : Nat → BitVec 8) (L : List Nat) (l N : Nat) (x : ByteArray) (hx : strOf (tb L) l = x) (hl : l ≤ 249) (hN : N ≤ 8160) (w : World) (T : TabK w) :
    Calls Tryd.prog 42 #[.string (strOf f 32), .string x, .int .i64 (N : Int)] w fun e w' => e = .returned (.tuple #[.string (strOf (lblB f 32 N l (tb L)) N), .int .i64 0]) ∧ Below w.heap.size w w' := by
  rw [← hx]
  exact labelled_ok f (tb L) 32 l N (by omega) hl hN w T
/-- A secret's keys. -/
def keysC (f : Nat → BitVec 8) : Array Value := #[.string (strOf (lblB f 32 16 8 (tb qkey)) 16), .string (strOf (lblB f 32 12 7 (tb qiv)) 12), .string (strOf (lblB f 32 16 7 (tb qhp)) 16)]
def noKeys : Array Value := #[.string ⟨#[]⟩, .string ⟨#[]⟩, .string ⟨#[]⟩]
theorem results_cell_tmp {P : Program} {fn : Func} {p t1 : Tmp} {ty : TypeId} (h : fn.results = #[.cell p ty, .tmp t1]) (tmps : Array Value) (w : World) (g : Nat) (t : TypeId) (cs : Array Value) (fr : Nat × Nat) (d : TypeDesc)
    (hp : tmps.getD p undef = .pointer (some ⟨g, 0, none⟩)) (hg : w.heap[g]? = some (.cells cs t fr))
    (hu : P.underlying ty = some d) (hd : (match d with | .struct _ | .array _ _ => true | _ => false) = true) (hi : (P.info? ty).map (·.size) = some cs.size) :
    (results fn tmps).run P w = .ok (.tuple #[.agg cs, tmps.getD t1 undef]) w := by
  have hp' : tmps[p]?.getD undef = .pointer (some ⟨g, 0, none⟩) := by simpa using hp
  simp [results, h, hp', asAddr, run_loadVar_row w g t ty cs fr d hg hu hd hi]
set_option maxRecDepth 100000 in
theorem of_ok (f : Nat → BitVec 8) (w : World) (T : TabK w) :
    Calls Tryd.prog 20 #[.string (strOf f 32)] w fun e w' => e = .returned (.tuple #[.agg (keysC f), .int .i64 0]) ∧ Below w.heap.size w w' := by
  have K1 := Lib.hid (fun (w' : World) (hb : Below w.heap.size w w') => (show Calls Tryd.prog 42 #[.string (strOf f 32), .string ⟨#[113, 117, 105, 99, 32, 107, 101, 121]⟩, .int .i64 16] w' _ from lab_of f qkey 8 16 _ qkey_str (by omega) (by omega) w' (T.later hb)))
  have K2 := Lib.hid (fun (w' : World) (hb : Below w.heap.size w w') => (show Calls Tryd.prog 42 #[.string (strOf f 32), .string ⟨#[113, 117, 105, 99, 32, 105, 118]⟩, .int .i64 12] w' _ from lab_of f qiv 7 12 _ qiv_str (by omega) (by omega) w' (T.later hb)))
  have K3 := Lib.hid (fun (w' : World) (hb : Below w.heap.size w w') => (show Calls Tryd.prog 42 #[.string (strOf f 32), .string ⟨#[113, 117, 105, 99, 32, 104, 112]⟩, .int .i64 16] w' _ from lab_of f qhp 7 16 _ qhp_str (by omega) (by omega) w' (T.later hb)))
  have zf := strOf_size f 32
  have e : keysC f = #[.string (strOf (lblB f 32 16 8 (tb qkey)) 16), .string (strOf (lblB f 32 12 7 (tb qiv)) 12), .string (strOf (lblB f 32 16 7 (tb qhp)) 16)] := rfl
  rw [e]
  clear e
  generalize strOf (lblB f 32 16 8 (tb qkey)) 16 = R1 at *
  generalize strOf (lblB f 32 12 7 (tb qiv)) 12 = R2 at *
  generalize strOf (lblB f 32 16 7 (tb qhp)) 16 = R3 at *
  generalize strOf f 32 = SF at *
  clear T
  go_enter Tryd.func20, Tryd.ntmps20
  go_upto_region 3 with fail
  obtain ⟨wa, hwa⟩ : ∃ wa, w.alloc (.cells #[.string ⟨#[]⟩, .string ⟨#[]⟩, .string ⟨#[]⟩] 34) = wa := ⟨_, rfl⟩
  have ba : Below w.heap.size w wa := by rw [← hwa]; exact (Below.refl _ _).alloc (Nat.le_refl _) _
  have ra : wa.heap[w.heap.size]? = some (.cells #[.string ⟨#[]⟩, .string ⟨#[]⟩, .string ⟨#[]⟩] 34 (0, 0)) := by rw [← hwa]; exact heap_alloc_last _ _
  simp only [hwa]
  have BA := Lib.hid ba
  have RA := Lib.hid ra
  clear hwa ba ra
  go_wp2_with fail
  with_reducible refine (K1.out wa BA.out).mono ?_
  rintro e w1 ⟨rfl, hb1⟩
  have B1 := Lib.hid (BA.out.trans (hb1.mono BA.out.size))
  have Q1 := Lib.hid ((hb1.block w.heap.size (lt_of_heap RA.out)).trans RA.out)
  clear hb1 K1
  go_wp2_with fail
  with_reducible refine (K2.out w1 B1.out).mono ?_
  rintro e w2 ⟨rfl, hb2⟩
  have B2 := Lib.hid (B1.out.trans (hb2.mono B1.out.size))
  have Q2 := Lib.hid ((hb2.block w.heap.size (lt_of_heap Q1.out)).trans Q1.out)
  clear hb2 K2
  go_wp2_with fail
  with_reducible refine (K3.out w2 B2.out).mono ?_
  rintro e w3 ⟨rfl, hb3⟩
  have B3 := Lib.hid (B2.out.trans (hb3.mono B2.out.size))
  have Q3 := Lib.hid ((hb3.block w.heap.size (lt_of_heap Q2.out)).trans Q2.out)
  clear hb3 K3
  go_wp2_with (refine wpList_store_row (op := ⟨none, .store 34 (.tmp 2) (.tmp 42), _, _, _, _⟩) rfl 34 _ _ rfl w.heap.size _ _ #[.string R1, .string R2, .string R3] rfl rfl Q3.out rfl (by kernel_rfl) (by kernel_rfl) ?_; intro w4 s4)
  refine bodyPost_ret (v := .tuple #[.agg #[.string R1, .string R2, .string R3], .int .i64 0]) (results_cell_tmp (p := 2) (t1 := 3) rfl _ _ w.heap.size 34 #[.string R1, .string R2, .string R3] (0, 0) _ rfl s4.row Tryd.underlying34 rfl (by kernel_rfl)) rfl ⟨rfl, B3.out.trans (s4.below _ (Nat.le_refl _))⟩
set_option maxRecDepth 100000 in
theorem of_bad (x : ByteArray) (hx : x.size ≠ 32) (w : World) :
    Calls Tryd.prog 20 #[.string x] w fun e w' => e = .returned (.tuple #[.agg noKeys, .int .i64 1]) ∧ Below w.heap.size w w' := by
  have hI : ¬ (x.size : Int) = 32 := by omega
  go_enter Tryd.func20, Tryd.ntmps20
  go_upto_region 2 with fail
  obtain ⟨wa, hwa⟩ : ∃ wa, w.alloc (.cells #[.string ⟨#[]⟩, .string ⟨#[]⟩, .string ⟨#[]⟩] 34) = wa := ⟨_, rfl⟩
  have ba : Below w.heap.size w wa := by rw [← hwa]; exact (Below.refl _ _).alloc (Nat.le_refl _) _
  have ra : wa.heap[w.heap.size]? = some (.cells #[.string ⟨#[]⟩, .string ⟨#[]⟩, .string ⟨#[]⟩] 34 (0, 0)) := by rw [← hwa]; exact heap_alloc_last _ _
  simp only [hwa]
  have BA := Lib.hid ba
  have RA := Lib.hid ra
  clear hwa ba ra
  go_wp2_with (refine wpList_store_row (op := ⟨none, .store 34 (.tmp 2) (.tmp 11), _, _, _, _⟩) rfl 34 _ _ rfl w.heap.size _ _ noKeys rfl rfl RA.out rfl (by kernel_rfl) (by kernel_rfl) ?_; intro w4 s4)
  refine bodyPost_ret (v := .tuple #[.agg noKeys, .int .i64 1]) (results_cell_tmp (p := 2) (t1 := 3) rfl _ _ w.heap.size 34 noKeys (0, 0) _ rfl s4.row Tryd.underlying34 rfl (by kernel_rfl)) rfl ⟨rfl, BA.out.trans (s4.below _ (Nat.le_refl _))⟩
theorem next_ok (f : Nat → BitVec 8) (w : World) (T : TabK w) :
    Calls Tryd.prog 19 #[.string (strOf f 32)] w fun e w' => e = .returned (.tuple #[.string (strOf (lblB f 32 32 7 (tb qku)) 32), .int .i64 0]) ∧ Below w.heap.size w w' := by
  have K1 := Lib.hid (show Calls Tryd.prog 42 #[.string (strOf f 32), .string ⟨#[113, 117, 105, 99, 32, 107, 117]⟩, .int .i64 32] w _ from lab_of f qku 7 32 _ qku_str (by omega) (by omega) w T)
  have zf := strOf_size f 32
  generalize strOf (lblB f 32 32 7 (tb qku)) 32 = R1 at *
  generalize strOf f 32 = SF at *
  clear T
  go_enter Tryd.func19, Tryd.ntmps19
  go_wp2_with fail
  with_reducible refine K1.out.mono ?_
  rintro e w1 ⟨rfl, hb1⟩
  go_wp2_with fail
  go_ret2
  exact ⟨rfl, hb1⟩
theorem next_bad (x : ByteArray) (hx : x.size ≠ 32) (w : World) :
    Calls Tryd.prog 19 #[.string x] w fun e w' => e = .returned (.tuple #[.string ⟨#[]⟩, .int .i64 1]) ∧ w = w' := by
  have hI : ¬ (x.size : Int) = 32 := by omega
  go_enter Tryd.func19, Tryd.ntmps19
  go_wp2_with fail
  go_ret2
  exact ⟨rfl, rfl⟩
end Go.Proofs.YtjbpjoondmcnlabDoor
/-
  guard: First, Reset.
-/
namespace Go.Proofs.YtjbpjoondmcnlabDoor
open Go Go.RowKit Go.BigFrame
set_option linter.unusedSimpArgs false
set_option linter.unusedVariables false
def saltL : List Nat := [56, 118, 44, 247, 245, 89, 52, 179, 77, 23, 154, 230, 164, 200, 12, 173, 204, 187, 127, 10]
/-- The secret of a name, of which the first ones are made. -/
def comB (g : Nat → BitVec 8) (n : Nat) : Nat → BitVec 8 := macB (keyB (tb saltL) 20) g n
theorem salt_cells : (#[.int .u8 56, .int .u8 118, .int .u8 44, .int .u8 247, .int .u8 245, .int .u8 89, .int .u8 52, .int .u8 179, .int .u8 77, .int .u8 23, .int .u8 154, .int .u8 230, .int .u8 164, .int .u8 200, .int .u8 12, .int .u8 173, .int .u8 204, .int .u8 187, .int .u8 127, .int .u8 10] : Array Value) = bytesA (tb saltL) 20 := by kernel_rfl
theorem marked_in {w : World} {q M : Nat} {g : Nat → BitVec 8} {T : TypeId} {fr : Nat × Nat} (h : w.heap[q]? = some (.cells (bytesA g M) T fr)) (hm : M ≤ maxLen) : BytesIn w (some ⟨q, 0, none⟩) M g :=
  ⟨hm, .inr ⟨q, 0, rfl, lt_of_heap h, fun i hi => by rw [Nat.zero_add, cell_of_row _ _ _ _ _ _ h]; exact bytesA_get _ hi⟩⟩
theorem first_bad (x : ByteArray) (hx : 20 < x.size) (w : World) :
    Calls Tryd.prog 18 #[.string x] w fun e w' => e = .returned (.tuple #[.string ⟨#[]⟩, .string ⟨#[]⟩, .int .i64 1]) ∧ w = w' := by
  have hI : (20 : Int) < (x.size : Int) := by omega
  go_enter Tryd.func18, Tryd.ntmps18
  go_wp2_with fail
  go_ret3
  exact ⟨rfl, rfl⟩
set_option maxHeartbeats 4000000 in
set_option maxRecDepth 100000 in
theorem first_ok (g : Nat → BitVec 8) (n : Nat) (hn : n ≤ 20) (w : World) (T : TabK w) :
    Calls Tryd.prog 18 #[.string (strOf g n)] w fun e w' => e = .returned (.tuple #[.string (strOf (lblB (comB g n) 32 32 9 (tb qcin)) 32), .string (strOf (lblB (comB g n) 32 32 9 (tb qsin)) 32), .int .i64 0]) ∧ Below w.heap.size w w' := by
  have zg := strOf_size g n
  have hI : ¬ (20 : Int) < (n : Int) := by omega
  obtain ⟨SC, hSC⟩ : ∃ SC, SC = (#[.int .u8 56, .int .u8 118, .int .u8 44, .int .u8 247, .int .u8 245, .int .u8 89, .int .u8 52, .int .u8 179, .int .u8 77, .int .u8 23, .int .u8 154, .int .u8 230, .int .u8 164, .int .u8 200, .int .u8 12, .int .u8 173, .int .u8 204, .int .u8 187, .int .u8 127, .int .u8 10] : Array Value) := ⟨_, rfl⟩
  have hz : SC.size = 20 := by rw [hSC]; rfl
  have hcv1 := conv_same w SC 5 20 20
  rw [hz] at hcv1
  have al1 : Below w.heap.size w (w.alloc (.cells SC 5 (20, 20 + 1))) := (Below.refl _ _).alloc (Nat.le_refl _) _
  have r1 : (w.alloc (.cells SC 5 (20, 20 + 1))).heap[w.heap.size]? = some (.cells SC 5 (20, 20 + 1)) := heap_alloc_last _ _
  obtain ⟨w1, hw1⟩ : ∃ w1, w.alloc (.cells SC 5 (20, 20 + 1)) = w1 := ⟨_, rfl⟩
  rw [hw1] at hcv1 al1 r1
  obtain ⟨v2, w2, hcv2, o2, b2⟩ := conv_ownZ g n (by omega) w1 w1.heap.size (Nat.le_refl _)
  obtain ⟨a2, c2, rfl, hc2, hm2, bi2, hg2⟩ := o2.asBytes
  have B2 := al1.trans (b2.mono al1.size)
  have r2 := (b2.block _ (lt_of_heap r1)).trans r1
  rw [hSC, salt_cells] at r2
  have EX := Lib.hid (extract_any 20 20 n c2 (tb saltL) g (some ⟨w.heap.size, 0, none⟩) a2 w2 (T.later B2) (marked_in r2 (by unfold maxLen; omega)) (Nat.le_refl _) (by unfold maxLen; omega) (by omega) bi2 hc2 hm2 (by omega))
  have BB := Lib.hid B2
  have TK := Lib.hid (fun (w' : World) (hb : Below w.heap.size w w') => T.later hb)
  have ecom : macB (keyB (tb saltL) 20) g n = comB g n := rfl
  rw [ecom] at EX
  obtain ⟨C, hC⟩ : ∃ C, comB g n = C := ⟨_, rfl⟩
  rw [hC] at EX ⊢
  have K1 := Lib.hid (fun (w' : World) (T' : TabK w') => (show Calls Tryd.prog 42 #[.string (strOf C 32), .string ⟨#[99, 108, 105, 101, 110, 116, 32, 105, 110]⟩, .int .i64 32] w' _ from lab_of C qcin 9 32 _ qcin_str (by omega) (by omega) w' T'))
  have K2 := Lib.hid (fun (w' : World) (T' : TabK w') => (show Calls Tryd.prog 42 #[.string (strOf C 32), .string ⟨#[115, 101, 114, 118, 101, 114, 32, 105, 110]⟩, .int .i64 32] w' _ from lab_of C qsin 9 32 _ qsin_str (by omega) (by omega) w' T'))
  have CC := Lib.hid (fun (w' : World) (q : Nat) (h : w'.heap[q]? = some (.cells (bytesA C 32) 103 (0, 0))) => conv_in C (some ⟨q, 0, none⟩) 32 32 w' (row_bytesIn h 32 (Nat.le_refl _) (by unfold maxLen; omega)))
  generalize strOf (lblB C 32 32 9 (tb qcin)) 32 = R1 at *
  generalize strOf (lblB C 32 32 9 (tb qsin)) 32 = R2 at *
  generalize strOf C 32 = SCom at *
  generalize strOf g n = SG at *
  clear al1 r1 r2 o2 b2 bi2 hg2 B2 T hC ecom hz
  go_enter Tryd.func18, Tryd.ntmps18
  go_upto_region 3 with fail
  rw [hSC] at hcv1 hw1
  clear hSC
  go_wp2_with fail
  with_reducible refine EX.out.mono ?_
  rintro e w3 ⟨q, rfl, hq, hrow, hb3⟩
  have B3 := Lib.hid (BB.out.trans (hb3.mono BB.out.size))
  have cc := CC.out w3 q hrow
  have L1 := Lib.hid (K1.out w3 (TK.out w3 B3.out))
  clear hcv1 hcv2 hw1 hrow hb3 hq EX BB CC K1
  go_wp2_with fail
  clear cc
  with_reducible refine L1.out.mono ?_
  rintro e w4 ⟨rfl, hb4⟩
  have B4 := Lib.hid (B3.out.trans (hb4.mono B3.out.size))
  have L2 := Lib.hid (K2.out w4 (TK.out w4 B4.out))
  clear hb4 L1 K2 TK
  go_wp2_with fail
  with_reducible refine L2.out.mono ?_
  rintro e w5 ⟨rfl, hb5⟩
  have B5 := Lib.hid (B4.out.trans (hb5.mono B4.out.size))
  clear hb5 L2
  go_wp2_with fail
  go_ret3
  exact ⟨rfl, B5.out⟩
theorem str_upto (f : Nat → BitVec 8) (lo len : Nat) (h2 : lo ≤ len) : (strOf f len).extract 0 lo = strOf f lo := by
  apply ByteArray.ext
  rw [ByteArray.data_extract]
  apply Array.ext_getElem?
  intro i
  show ((strL f len).toArray.extract 0 lo)[i]? = (strL f lo).toArray[i]?
  by_cases h : i < lo
  · have : i < len := by omega
    simp [strL, h, this]
  · rw [Array.getElem?_eq_none (by simp [strL]; omega), Array.getElem?_eq_none (by simp [strL]; omega)]
end Go.Proofs.YtjbpjoondmcnlabDoor
/-
  guard: the document's label, Of, Next, First; the law's to.
-/
namespace Go.Proofs.YtjbpjoondmcnlabDoor
open Go Go.RowKit Go.BigFrame
set_option linter.unusedSimpArgs false
set_option linter.unusedVariables false
theorem salt_str : strOf (tb saltL) 20 = ⟨#[56, 118, 44, 247, 245, 89, 52, 179, 77, 23, 154, 230, 164, 200, 12, 173, 204, 187, 127, 10]⟩ := by kernel_rfl
set_option maxRecDepth 100000 in
theorem to_any (R1 R2 R3 : ByteArray) (w : World) :
    Calls Tryd.prog 12 #[.agg #[.string R1, .string R2, .string R3]] w fun e w' => e = .returned (.agg #[.string R1, .string R2, .string R3]) ∧ Below w.heap.size w w' := by
  go_enter Tryd.func12, Tryd.ntmps12
  go_upto_region 1 with fail
  obtain ⟨wa, hwa⟩ : ∃ wa, (w.alloc (.cells #[.string R1, .string R2, .string R3] 23)).alloc (.cells #[.string ⟨#[]⟩, .string ⟨#[]⟩, .string ⟨#[]⟩] 34) = wa := ⟨_, rfl⟩
  have ba : Below w.heap.size w wa := by rw [← hwa]; exact ((Below.refl _ _).alloc (Nat.le_refl _) _).alloc (by simp) _
  have r1 : wa.heap[w.heap.size]? = some (.cells #[.string R1, .string R2, .string R3] 23 (0, 0)) := by rw [← hwa]; exact rows_alloc w [.cells #[.string R1, .string R2, .string R3] 23, .cells #[.string ⟨#[]⟩, .string ⟨#[]⟩, .string ⟨#[]⟩] 34] 0
  have r2 : wa.heap[w.heap.size + 1]? = some (.cells #[.string ⟨#[]⟩, .string ⟨#[]⟩, .string ⟨#[]⟩] 34 (0, 0)) := by rw [← hwa]; exact rows_alloc w [.cells #[.string R1, .string R2, .string R3] 23, .cells #[.string ⟨#[]⟩, .string ⟨#[]⟩, .string ⟨#[]⟩] 34] 1
  simp only [hwa]
  have c0 : wa.cell? ⟨w.heap.size, 0, none⟩ = some (.string R1) := by rw [cell_of_row _ _ _ _ _ _ r1]; rfl
  have c1 : wa.cell? ⟨w.heap.size, 1, none⟩ = some (.string R2) := by rw [cell_of_row _ _ _ _ _ _ r1]; rfl
  have c2 : wa.cell? ⟨w.heap.size, 2, none⟩ = some (.string R3) := by rw [cell_of_row _ _ _ _ _ _ r1]; rfl
  have BA := Lib.hid ba
  have RA := Lib.hid r2
  clear hwa ba r1 r2
  go_wp2_with (refine wpList_store_row (op := ⟨none, .store 34 (.tmp 2) (.tmp 9), _, _, _, _⟩) rfl 34 _ _ rfl (w.heap.size + 1) _ _ #[.string R1, .string R2, .string R3] rfl rfl RA.out rfl (by kernel_rfl) (by kernel_rfl) ?_; intro w4 s4)
  exact ret_row (w.heap.size + 1) _ 34 #[.string R1, .string R2, .string R3] rfl _ rfl s4.row Tryd.underlying34 rfl (by kernel_rfl) rfl ⟨rfl, BA.out.trans (s4.below _ (Nat.le_succ _))⟩
end Go.Proofs.YtjbpjoondmcnlabDoor
