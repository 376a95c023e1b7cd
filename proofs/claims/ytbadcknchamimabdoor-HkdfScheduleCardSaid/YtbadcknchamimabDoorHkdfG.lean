/-
  hkdf: a schedule: New, now, Derive, Mix.
-/
import Derived.Test.YtbadcknchamimabDoorHkdfF
namespace Go.Proofs.YtbadcknchamimabDoor
open Go Go.RowKit Go.BigFrame
set_option linter.unusedSimpArgs false
set_option linter.unusedVariables false
/-- The first secret. -/
def firstB : Nat → BitVec 8 := macB (keyB (fun _ => 0#8) 0) (fun _ => 0#8) 32
/-- A secret derived of p. -/
def derB (p s : Nat → BitVec 8) (l : Nat) (g : Nat → BitVec 8) (n : Nat) : Nat → BitVec 8 := expB (keyB p 32) (infoB 32 l s 32 (sumS g n)) (9 + l + 1 + 32)
/-- "derived". -/
def derivedF (i : Nat) : BitVec 8 := if i = 0 then 100#8 else if i = 1 then 101#8 else if i = 2 then 114#8 else if i = 3 then 105#8 else if i = 4 then 118#8 else if i = 5 then 101#8 else 100#8
theorem derived_str : strOf derivedF 7 = ⟨#[100, 101, 114, 105, 118, 101, 100]⟩ := by kernel_rfl
/-- The next secret. -/
def mixB (p g : Nat → BitVec 8) (n : Nat) : Nat → BitVec 8 := macB (keyB (derB p derivedF 7 (fun _ => 0#8) 0) 32) (if n = 0 then fun _ => 0#8 else g) (if n = 0 then 32 else n)
/-- What a schedule's cell holds: no secret yet, or one that lies in row r. -/
def CellSt (w : World) (b : Nat) (p : Nat → BitVec 8) (v : Value) : Option Nat → Prop
  | none => v = .slice none 0 0 ∧ p = firstB
  | some r => v = .slice (some ⟨r, 0, none⟩) 32 32 ∧ r ≠ b ∧ w.heap[r]? = some (.cells (bytesA p 32) 49 (0, 0))
def SchedSt (w : World) (b : Nat) (o : Option Nat) (p : Nat → BitVec 8) : Prop := ∃ v, w.heap[b]? = some (.cells #[v] 54 (0, 0)) ∧ CellSt w b p v o
theorem SchedSt.lt {w : World} {b : Nat} {o : Option Nat} {p : Nat → BitVec 8} (h : SchedSt w b o p) : b < w.heap.size ∧ ∀ r, o = some r → r < w.heap.size := by
  obtain ⟨v, h1, h2⟩ := h
  refine ⟨lt_of_heap h1, fun r e => ?_⟩
  subst e
  exact lt_of_heap h2.2.2
theorem SchedSt.later {w w' : World} {b : Nat} {o : Option Nat} {p : Nat → BitVec 8} (h : SchedSt w b o p) (hb : Below w.heap.size w w') : SchedSt w' b o p := by
  obtain ⟨v, h1, h2⟩ := h
  refine ⟨v, (hb.block b (lt_of_heap h1)).trans h1, ?_⟩
  cases o with
  | none => exact h2
  | some r => exact ⟨h2.1, h2.2.1, (hb.block r (lt_of_heap h2.2.2)).trans h2.2.2⟩
theorem SchedSt.chg {w w' : World} {b y : Nat} {o : Option Nat} {p : Nat → BitVec 8} (h : SchedSt w b o p) (hc : Chg y w w') (hb : b ≠ y) (ho : o ≠ some y) : SchedSt w' b o p := by
  obtain ⟨v, h1, h2⟩ := h
  refine ⟨v, (hc.block b (lt_of_heap h1) hb).trans h1, ?_⟩
  cases o with
  | none => exact h2
  | some r => exact ⟨h2.1, h2.2.1, (hc.block r (lt_of_heap h2.2.2) (fun e => ho (by rw [e]))).trans h2.2.2⟩
theorem hnew_any (w : World) : Calls Tryd.prog 18 #[] w fun e w' => e = .returned (.pointer (some ⟨w.heap.size, 0, none⟩)) ∧ SchedSt w' w.heap.size none firstB ∧ Below w.heap.size w w' := by
  go_enter Tryd.func18, Tryd.ntmps18
  go_wp2_with fail
  go_ret
  exact ⟨rfl, ⟨_, heap_alloc_last _ _, rfl, rfl⟩, (Below.refl _ _).alloc (Nat.le_refl _) _⟩
theorem made32 (w : World) : (Instr.makeSlice 22 (.int .i64 32) (.int .i64 32)).run Tryd.prog w = .ok (.slice (some ⟨w.heap.size, 0, none⟩) 32 32) (w.alloc (.cells (bytesArr (fun _ => 0#8) 32) 5)) :=
  run_make_bytes 32 (by omega) w
theorem arr_in {w : World} {q n : Nat} {f : Nat → BitVec 8} {T : TypeId} (h : w.heap[q]? = some (.cells (bytesArr f n) T (0, 0))) (hn : n ≤ maxLen) : BytesIn w (some ⟨q, 0, none⟩) n f :=
  ⟨hn, .inr ⟨q, 0, rfl, lt_of_heap h, fun i hi => by rw [Nat.zero_add]; exact bytesIn_cells h i hi⟩⟩
set_option maxRecDepth 100000 in
theorem now_any (b : Nat) (o : Option Nat) (p : Nat → BitVec 8) (w : World) (T : TabK w) (h : SchedSt w b o p) :
    Calls Tryd.prog 25 #[.pointer (some ⟨b, 0, none⟩)] w fun e w' => ∃ a, e = .returned (.slice a 32 32) ∧ BytesIn w' a 32 p ∧ Below w.heap.size w w' := by
  obtain ⟨v, h1, h2⟩ := h
  have hc : w.cell? ⟨b, 0, none⟩ = some v := by rw [cell_of_row _ _ _ _ _ _ h1]; rfl
  go_enter Tryd.func25, Tryd.ntmps25
  cases o with
  | none =>
    obtain ⟨rfl, rfl⟩ := h2
    have hmk := made32
    have al : Below w.heap.size w (w.alloc (.cells (bytesArr (fun _ => 0#8) 32) 5)) := (Below.refl _ _).alloc (Nat.le_refl _) _
    have EX := Lib.hid (extract_any 0 0 32 32 (fun _ => 0#8) (fun _ => 0#8) none (some ⟨w.heap.size, 0, none⟩) _ (T.later al) (nil_in _ _) (Nat.le_refl _) (Nat.zero_le _) (by omega) (arr_in (heap_alloc_last _ _) (by unfold maxLen; omega)) (Nat.le_refl _) (by unfold maxLen; omega) (by omega))
    have AL := Lib.hid al
    have heq : (binOp .eql 22 (.slice none 0 0) (.slice none 0 0)).run Tryd.prog w = .ok (.bool true) w := run_eql_slice_nil w 22 5 none 0 0 under_bytes
    clear al T h1
    go_wp2_with fail
    clear hmk
    with_reducible refine EX.out.mono ?_
    rintro e w2 ⟨r, rfl, hr, hrow, hb2⟩
    have RW := Lib.hid hrow
    have B2 := Lib.hid (AL.out.trans (hb2.mono AL.out.size))
    clear hrow hb2 EX
    go_wp2_with fail
    go_ret
    exact ⟨_, rfl, row_bytesIn RW.out 32 (Nat.le_refl _) (by unfold maxLen; omega), B2.out⟩
  | some r =>
    obtain ⟨rfl, hrb, hrow⟩ := h2
    have RW := Lib.hid hrow
    have heq : (binOp .eql 22 (.slice (some ⟨r, 0, none⟩) 32 32) (.slice none 0 0)).run Tryd.prog w = .ok (.bool false) w := run_eql_slice_nil w 22 5 (some ⟨r, 0, none⟩) 32 32 under_bytes
    clear hrow h1 T
    go_wp2_with fail
    go_ret
    exact ⟨_, rfl, row_bytesIn RW.out 32 (Nat.le_refl _) (by unfold maxLen; omega), Below.refl _ _⟩
/-- What Derive hands out: 32 bytes of its own, or none, if the name is too long. -/
def DerOut (B l : Nat) (v : Value) (f : Nat → BitVec 8) (w : World) : Prop := (l ≤ 249 ∧ Own B v 32 f w) ∨ (¬ l ≤ 249 ∧ v = .slice none 0 0)
theorem DerOut.ok {B l : Nat} {v : Value} {f : Nat → BitVec 8} {w : World} (h : l ≤ 249) (o : Own B v 32 f w) : DerOut B l v f w := .inl ⟨h, o⟩
theorem DerOut.big {B l : Nat} {v : Value} {f : Nat → BitVec 8} {w : World} (h : ¬ l ≤ 249) (o : v = .slice none 0 0) : DerOut B l v f w := .inr ⟨h, o⟩
theorem DerOut.lower {B B' l : Nat} {v : Value} {f : Nat → BitVec 8} {w : World} (h : DerOut B l v f w) (hb : B' ≤ B) : DerOut B' l v f w := h.imp (fun ⟨h1, o⟩ => ⟨h1, o.lower hb⟩) id
theorem DerOut.later {B l : Nat} {v : Value} {f : Nat → BitVec 8} {w w' : World} (h : DerOut B l v f w) (hb : Below w.heap.size w w') : DerOut B l v f w' := h.imp (fun ⟨h1, o⟩ => ⟨h1, o.later hb⟩) id
def errOf (l : Nat) : Int := if l ≤ 249 then 0 else 5
theorem errOf_ok {l : Nat} (h : l ≤ 249) : errOf l = 0 := by unfold errOf; rw [if_pos h]
theorem errOf_big {l : Nat} (h : ¬ l ≤ 249) : errOf l = 5 := by unfold errOf; rw [if_neg h]
theorem derive_call (l : Nat) (s : Nat → BitVec 8) (p g : Nat → BitVec 8) (n : Nat) (a q' : Option Addr) (q : Nat) (w : World) (T : TabK w) (hp : BytesIn w a 32 p) (hq : w.heap[q]? = some (.cells (bytesA (sumS g n) 32) 49 (0, 0))) :
    Calls Tryd.prog 14 #[.slice a 32 32, .string (strOf s l), .slice (some ⟨q, 0, none⟩) 32 32, .int .i64 32] w
      fun e w' => ∃ v, e = .returned (.tuple #[v, .int .i64 (errOf l)]) ∧ DerOut w.heap.size l v (derB p s l g n) w' ∧ Below w.heap.size w w' := by
  by_cases h : l ≤ 249
  · rw [errOf_ok h]
    refine (label_ok 32 32 32 32 32 l p (sumS g n) s a (some ⟨q, 0, none⟩) w T hp (Nat.le_refl _) (by unfold maxLen; omega) (by omega) (row_bytesIn hq 32 (Nat.le_refl _) (by unfold maxLen; omega)) (Nat.le_refl _) (by unfold maxLen; omega) (by omega) h (by omega)).mono ?_
    rintro e w' ⟨v, rfl, o, hb⟩
    exact ⟨v, rfl, .ok h o, hb⟩
  · rw [errOf_big h]
    refine (label_big 32 32 32 32 32 a (some ⟨q, 0, none⟩) (strOf s l) (by omega) (.inl (by rw [strOf_size]; omega)) w).mono ?_
    rintro e w' ⟨rfl, rfl⟩
    exact ⟨_, rfl, .big h rfl, Below.refl _ _⟩
set_option maxHeartbeats 4000000 in
set_option maxRecDepth 100000 in
theorem derive_any (b : Nat) (o : Option Nat) (l : Nat) (s p g : Nat → BitVec 8) (a : Option Addr) (n c : Nat) (w : World) (T : TabK w) (h : SchedSt w b o p) (hx : BytesIn w a n g) (hc : n ≤ c) (hcm : c ≤ maxLen) (hn : n ≤ 1000000) :
    Calls Tryd.prog 17 #[.pointer (some ⟨b, 0, none⟩), .string (strOf s l), .slice a n c] w
      fun e w' => ∃ v, e = .returned (.tuple #[v, .int .i64 (errOf l)]) ∧ DerOut w.heap.size l v (derB p s l g n) w' ∧ Below w.heap.size w w' := by
  have SM := Lib.hid (shaSum_any n c g a w T hx hc hcm (by omega))
  have NW := Lib.hid (fun (w' : World) (hb : Below w.heap.size w w') => now_any b o p w' (T.later hb) (h.later hb))
  have TK := Lib.hid (fun (w' : World) (hb : Below w.heap.size w w') => T.later hb)
  obtain ⟨err, herr⟩ : ∃ err : Int, errOf l = err := ⟨_, rfl⟩
  have LB := Lib.hid (fun (q : Nat) (a : Option Addr) (w' : World) (T' : TabK w') hp hq => derive_call l s p g n a none q w' T' hp hq)
  rw [herr] at LB ⊢
  obtain ⟨S, hS⟩ : ∃ S, strOf s l = S := ⟨_, rfl⟩
  rw [hS] at LB ⊢
  obtain ⟨sm, hsm⟩ : ∃ sm, sumS g n = sm := ⟨_, rfl⟩
  rw [hsm] at SM LB
  clear hx T h hS hsm herr
  go_enter Tryd.func17, Tryd.ntmps17
  go_wp2_with fail
  with_reducible refine SM.out.mono ?_
  rintro e w1 ⟨rfl, hb1⟩
  have hal : Below w1.heap.size w1 (w1.alloc (.cells (bytesA sm 32) 49)) := (Below.refl _ _).alloc (Nat.le_refl _) _
  have hal2 : (w1.alloc (.cells (bytesA sm 32) 49)).heap[w1.heap.size]? = some (.cells (bytesA sm 32) 49 (0, 0)) := heap_alloc_last _ _
  go_upto_region 4 with (first
    | (refine wpList_alloc_row (o := ⟨some 8, .alloc 49, _, _, _, _⟩) rfl 49 rfl _ zero_32 ?_)
    | (refine wpList_store_new (o := ⟨none, .store 49 (.tmp 8) (.tmp 12), _, _, _, _⟩) rfl 49 _ _ rfl (bytesA (fun _ => 0#8) 32) (bytesA sm 32) _ rfl rfl rfl (by rw [bytesA_size]; kernel_rfl) (by rw [bytesA_size, bytesA_size]) (bytesA_one _ _) ?_))
  have B2 := Lib.hid (hb1.trans (hal.mono hb1.size))
  obtain ⟨w2, hw2⟩ : ∃ w2, w1.alloc (.cells (bytesA sm 32) 49) = w2 := ⟨_, rfl⟩
  rw [hw2] at hal2 B2
  simp only [hw2]
  generalize w1.heap.size = q at *
  have RW := Lib.hid hal2
  clear hal hal2 hw2 hb1 SM
  refine region_anyM mixedOrders ?_
  refine anyM_take (i := 0) (oi := ⟨some 13, _, _, _, _, _⟩) (v := .pointer (some ⟨b, 0, none⟩)) rfl (by kernel_rfl) (by kernel_rfl) (by kernel_rfl) (fun _ _ _ h => h) (.inl ⟨by rfl, fun w2 hw2 => ?_⟩) ?_
  · clear hw2
    go_simp
  simp only [Act.put, List.setIfInBounds_toArray, List.set_cons_succ, List.set_cons_zero]
  refine anyM_take (i := 2) (oi := ⟨some 15, _, _, _, _, _⟩) (v := .string S) rfl (by kernel_rfl) (by kernel_rfl) (by kernel_rfl) (fun _ _ _ h => h) (.inl ⟨by rfl, fun w2 hw2 => ?_⟩) ?_
  · clear hw2
    go_simp
  simp only [Act.put, List.setIfInBounds_toArray, List.set_cons_succ, List.set_cons_zero]
  refine anyM_take (i := 3) (oi := ⟨some 16, _, _, _, _, _⟩) (v := .slice (some ⟨q, 0, none⟩) 32 32) rfl (by kernel_rfl) (by kernel_rfl) (by kernel_rfl) (fun _ _ _ h => h) (.inl ⟨by rfl, fun w2 hw2 => ?_⟩) ?_
  · have hall := run_arr32_all w2 q
    clear hw2
    go_simp
  simp only [Act.put, List.setIfInBounds_toArray, List.set_cons_succ, List.set_cons_zero]
  refine anyM_call (i := 1) (o := ⟨some 14, _, _, _, _, _⟩) 25 #[.pointer (some ⟨b, 0, none⟩)] (by kernel_rfl) rfl (by rfl) (fun w2 => by go_simp) (fun w4 hw4 => ?_)
  have b4 := ext_below hw4 B2.out.drew B2.out.drew.size
  refine (NW.out w4 b4).mono ?_
  rintro e w5 ⟨a5, rfl, hp5, hb5⟩
  refine ⟨_, rfl, hb5, ?_⟩
  have HW4 : Below w2.drew.heap.size w2.drew w4 := hw4
  have RW4 : w4.heap[q]? = some (.cells (bytesA sm 32) 49 (0, 0)) := (HW4.block q (lt_row RW.out)).trans RW.out
  have RW5 := Lib.hid ((hb5.block q (lt_row RW4)).trans RW4)
  have B5 := Lib.hid (b4.trans (hb5.mono b4.size))
  have P5 := Lib.hid hp5
  clear hp5 hb5 hw4 b4 HW4 RW4 RW B2 NW
  simp only [Act.put, List.setIfInBounds_toArray, List.set_cons_succ, List.set_cons_zero]
  refine anyM_call (i := 4) (o := ⟨some 17, _, _, _, _, _⟩) 14 #[.slice a5 32 32, .string S, .slice (some ⟨q, 0, none⟩) 32 32, .int .i64 32] (by kernel_rfl) rfl (by rfl) (fun w2 => by go_simp) (fun w6 hw6 => ?_)
  have b6 := ext_below hw6 B5.out B5.out.size
  refine (LB.out q a5 w6 (TK.out w6 b6) (bytesIn_ext P5.out hw6) ((Below.block (show Below w5.heap.size w5 w6 from hw6) q (lt_row RW5.out)).trans RW5.out)).mono ?_
  rintro e w7 ⟨v7, rfl, ho7, hb7⟩
  refine ⟨_, rfl, hb7, ?_⟩
  have B7 := Lib.hid (b6.trans (hb7.mono b6.size))
  have O7 := Lib.hid (ho7.lower b6.size)
  clear ho7 hb7 hw6 b6 RW5 B5 P5 LB TK
  simp only [Act.put, List.setIfInBounds_toArray, List.set_cons_succ, List.set_cons_zero]
  refine anyM_take (i := 5) (oi := ⟨some 18, _, _, _, _, _⟩) (v := v7) rfl (by kernel_rfl) (by kernel_rfl) (by kernel_rfl) (fun _ _ _ h => h) (.inl ⟨by rfl, fun w2 hw2 => ?_⟩) ?_
  · clear hw2
    go_simp
  simp only [Act.put, List.setIfInBounds_toArray, List.set_cons_succ, List.set_cons_zero]
  refine anyM_take (i := 6) (oi := ⟨some 19, _, _, _, _, _⟩) (v := .int .i64 err) rfl (by kernel_rfl) (by kernel_rfl) (by kernel_rfl) (fun _ _ _ h => h) (.inl ⟨by rfl, fun w2 hw2 => ?_⟩) ?_
  · clear hw2
    go_simp
  simp only [Act.put, List.setIfInBounds_toArray, List.set_cons_succ, List.set_cons_zero]
  refine anyM_take (i := 7) (oi := ⟨some 6, _, _, _, _, _⟩) (v := v7) rfl (by kernel_rfl) (by kernel_rfl) (by kernel_rfl) (fun _ _ _ h => h) (.inl ⟨by rfl, fun w2 hw2 => ?_⟩) ?_
  · clear hw2
    go_simp
  simp only [Act.put, List.setIfInBounds_toArray, List.set_cons_succ, List.set_cons_zero]
  refine anyM_take (i := 8) (oi := ⟨some 7, _, _, _, _, _⟩) (v := .int .i64 err) rfl (by kernel_rfl) (by kernel_rfl) (by kernel_rfl) (fun _ _ _ h => h) (.inl ⟨by rfl, fun w2 hw2 => ?_⟩) ?_
  · clear hw2
    go_simp
  simp only [Act.put, List.setIfInBounds_toArray, List.set_cons_succ, List.set_cons_zero]
  refine anyM_done (by kernel_rfl) (fun w8 hw8 => ?_)
  have B8 := Lib.hid (ext_below hw8 B7.out B7.out.size)
  have O8 := Lib.hid (O7.out.later hw8)
  clear hw8 O7 B7
  go_wp2_with fail
  go_ret2
  exact ⟨v7, rfl, O8.out, B8.out⟩
theorem derive_nil (s : ByteArray) (a : Option Addr) (n c : Nat) (w : World) : Calls Tryd.prog 17 #[.pointer none, .string s, .slice a n c] w fun e w' => e = .returned (.tuple #[.slice none 0 0, .int .i64 1]) ∧ w = w' := by
  go_enter Tryd.func17, Tryd.ntmps17
  go_wp2_with fail
  go_ret2
  exact ⟨rfl, rfl⟩
theorem mix_nil (a : Option Addr) (n c : Nat) (w : World) : Calls Tryd.prog 16 #[.pointer none, .slice a n c] w fun e w' => e = .returned (.tuple #[]) ∧ w = w' := by
  go_enter Tryd.func16, Tryd.ntmps16
  go_wp2_with fail
  with_reducible refine (derive_nil _ _ _ _ w).mono ?_
  rintro e w2 ⟨rfl, rfl⟩
  go_wp2_with fail
  refine bodyPost_ret (results_none rfl _ _ _) rfl ?_
  exact ⟨rfl, rfl⟩
set_option maxHeartbeats 4000000 in
set_option maxRecDepth 100000 in
theorem mix_any (b : Nat) (o : Option Nat) (p g : Nat → BitVec 8) (a : Option Addr) (n c : Nat) (w : World) (T : TabK w) (h : SchedSt w b o p) (hx : BytesIn w a n g) (hc : n ≤ c) (hcm : c ≤ maxLen) (hn : n ≤ 1000000) :
    Calls Tryd.prog 16 #[.pointer (some ⟨b, 0, none⟩), .slice a n c] w
      fun e w' => e = .returned (.tuple #[]) ∧ ∃ r, SchedSt w' b (some r) (mixB p g n) ∧ w.heap.size ≤ r ∧ Chg b w w' := by
  have DV := derive_any b o 7 derivedF p (fun _ => 0#8) none 0 0 w T h (nil_in _ _) (Nat.le_refl _) (Nat.zero_le _) (by omega)
  rw [derived_str, errOf_ok (by omega)] at DV
  have D := Lib.hid DV
  have TK := Lib.hid (fun (w' : World) (hb : Below w.heap.size w w') => T.later hb)
  have HX := Lib.hid (fun (w' : World) (hb : Below w.heap.size w w') => bytesIn_ext hx hb)
  have ST := Lib.hid (fun (w' : World) (hb : Below w.heap.size w w') => h.later hb)
  have hbl := h.lt.1
  obtain ⟨d, hd⟩ : ∃ d, derB p derivedF 7 (fun _ => 0#8) 0 = d := ⟨_, rfl⟩
  rw [hd] at D
  have HD := Lib.hid hd
  clear DV T hx h hd
  obtain ⟨P, hP⟩ : ∃ P, mixB p g n = P := ⟨_, rfl⟩
  rw [hP]
  have HP := Lib.hid hP
  clear hP
  go_enter Tryd.func16, Tryd.ntmps16
  go_wp2_with fail
  with_reducible refine D.out.mono ?_
  rintro e w1 ⟨v1, rfl, ho1, hb1⟩
  have B1 := Lib.hid hb1
  have O1 : Hid (Own w.heap.size v1 32 d w1) := Lib.hid (by
    rcases ho1 with ⟨_, o⟩ | ⟨h, _⟩
    · exact o
    · omega)
  clear ho1 hb1 D
  go_upto_if 15 with fail
  obtain ⟨n2, hn2⟩ : ∃ n2, (if n = 0 then 32 else n) = n2 := ⟨_, rfl⟩
  obtain ⟨g2, hg2⟩ : ∃ g2 : Nat → BitVec 8, (if n = 0 then fun _ => 0#8 else g) = g2 := ⟨_, rfl⟩
  have HN2 := Lib.hid hn2
  have HG2 := Lib.hid hg2
  have hn2m : n2 ≤ 1000000 := by rw [← hn2]; split <;> omega
  clear hn2 hg2
  go_cut [1] (fun v1 wx => ∃ a2 c2, v1 = .slice a2 n2 c2 ∧ n2 ≤ c2 ∧ c2 ≤ maxLen ∧ BytesIn wx a2 n2 g2 ∧ Below w1.heap.size w1 wx)
  case first =>
    have hn2 := HN2.out
    have hg2 := HG2.out
    clear HN2 HG2
    by_cases h0 : n = 0
    · rw [if_pos h0] at hn2 hg2
      subst hn2 hg2
      have h0I : (n : Int) = 0 := by omega
      have hmk := made32
      go_wp2_with fail
      go_meet
      exact ⟨_, _, rfl, Nat.le_refl _, by unfold maxLen; omega, arr_in (heap_alloc_last _ _) (by unfold maxLen; omega), (Below.refl _ _).alloc (Nat.le_refl _) _⟩
    · rw [if_neg h0] at hn2 hg2
      subst hn2 hg2
      have h0I : ¬ (n : Int) = 0 := by omega
      go_wp2_with fail
      go_meet
      exact ⟨_, _, rfl, hc, hcm, HX.out w1 B1.out, Below.refl _ _⟩
  obtain ⟨a2, c2, rfl, hc2, hm2, bi2, bw⟩ := hcut
  obtain ⟨a1, c1, rfl, hc1, hm1, bi1, _, hg1⟩ := O1.out.asMine
  have B2 := Lib.hid (B1.out.trans (bw.mono B1.out.size))
  have EX := Lib.hid (extract_any 32 c1 n2 c2 d g2 a1 a2 wc (TK.out wc B2.out) (bytesIn_ext bi1 bw) hc1 hm1 (by omega) bi2 hc2 hm2 hn2m)
  have hPQ : macB (keyB d 32) g2 n2 = P := by rw [← HP.out, ← HD.out, ← HG2.out, ← HN2.out]; rfl
  rw [hPQ] at EX
  clear hg1 bi1 bi2 bw O1 HP HD HG2 HN2 HX TK hPQ
  go_wp2_with fail
  with_reducible refine EX.out.mono ?_
  rintro e w3 ⟨r, rfl, hr, hrow, hb3⟩
  have hwc : w.heap.size ≤ wc.heap.size := B2.out.size
  have B3 := B2.out.trans (hb3.mono hwc)
  obtain ⟨v, hcell, hcs⟩ := ST.out w3 B3
  have kc : w3.cell? ⟨b, 0, none⟩ = some v := by rw [cell_of_row _ _ _ _ _ _ hcell]; rfl
  have fz : w3.frozen? ⟨b, 0, none⟩ = false := frozen_of_row _ _ _ _ _ hcell
  have QS := rowSet_cell w3 b 0 54 _ (.slice (some ⟨r, 0, none⟩) 32 32) hcell
  have hrb : r ≠ b := by omega
  have S4 : SchedSt (w3.setCell ⟨b, 0, none⟩ (.slice (some ⟨r, 0, none⟩) 32 32)) b (some r) P := ⟨_, QS.row, rfl, hrb, QS.keep (k := r) hrb hrow⟩
  have C4 : Chg b w (w3.setCell ⟨b, 0, none⟩ (.slice (some ⟨r, 0, none⟩) 32 32)) := (Chg.of_below B3).trans QS.chg
  have HS4 := Lib.hid S4
  have HC4 := Lib.hid C4
  have HR : Hid (w.heap.size ≤ r) := Lib.hid (by omega)
  clear S4 C4 QS hcs hcell hrow hb3 hr EX ST B3
  go_wp2_with fail
  refine bodyPost_end (results_none rfl _ _ _) rfl ?_
  exact ⟨rfl, r, HS4.out, HR.out, HC4.out⟩
end Go.Proofs.YtbadcknchamimabDoor
