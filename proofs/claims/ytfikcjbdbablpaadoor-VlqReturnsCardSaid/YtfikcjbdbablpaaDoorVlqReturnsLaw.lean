/-
  What is put is got, in any size, whatever stands behind; texts too; a beginning of the bytes ends too soon, at the commit of COMMIT; the tables of math/bits hold what the program's text lays.
-/
import Derived.Test.YtfikcjbdbablpaaDoorRows
import Derived.Test.YtfikcjbdbablpaaDoorCards
import Derived.Test.YtfikcjbdbablpaaDoorTie
import Derived.Test.YtfikcjbdbablpaaDoorDoor
import Derived.Test.YtfikcjbdbablpaaDoorVlqH
import Derived.Test.YtfikcjbdbablpaaDoorWith
import Derived.Test.YtfikcjbdbablpaaDoorHeld
import Derived.Test.YtfikcjbdbablpaaDoorOpenB
import Derived.WalkKit
import Derived.ProofKit
import Derived.OpenShut
import Derived.ShutString
import Derived.ChangeOld
import Derived.Below
import Derived.Deep.DeepCutAuto
import Derived.Deep.Upon
import Derived.Deep.AppendSrc
import Derived.SevenTiedAt
import Derived.LaidMore
import Derived.SizedLaws
import Derived.Lib.SmallJoins
namespace Go.Proofs.YtfikcjbdbablpaaDoor.vlqReturns
open Go Go.ChangeShapes Go.WideShapes Go.ChangeAt Go.RowKit Go.BigFrame
set_option linter.unusedVariables false
def noteC (x : BitVec 64) (size : Int) (s : Nat → BitVec 8) (n : Nat) (v : Value) : Array Value := #[.int .u64 (n64 x), .int .i64 size, .string (strOf s n), v]
theorem put_split (x : BitVec 64) (size : Int) : (∃ k, k < 4 ∧ size = ((2 ^ k : Nat) : Int) ∧ x.toNat < 2 ^ (8 * 2 ^ k - 2)) ∨
    ∃ c : Int, (c == 0) = false ∧ ∀ w, Calls Tryd.prog 17 #[.int .u64 (n64 x), .int .i64 size] w (PutNo c w) := by
  cases h : sizeK size with
  | none =>
    obtain ⟨h1, h2, h4, h8⟩ := sizeK_none h
    exact .inr ⟨1, rfl, putIn_uint64_arg x size h1 h2 h4 h8⟩
  | some k =>
    obtain ⟨hk, rfl⟩ := sizeK_some h
    by_cases hx : x.toNat < 2 ^ (8 * 2 ^ k - 2)
    · exact .inl ⟨k, hk, rfl, hx⟩
    · refine .inr ⟨5, rfl, fun w => ?_⟩
      obtain rfl | rfl | rfl | rfl : k = 0 ∨ k = 1 ∨ k = 2 ∨ k = 3 := by omega
      · exact putIn_uint64_big0 x hx w
      · exact putIn_uint64_big1 x hx w
      · exact putIn_uint64_big2 x hx w
      · exact putIn_uint64_big3 x hx w
/-- The box of what came in. -/
structure Box (w0 : World) (cs : Array Value) (w : World) : Prop where
  below : Below w0.heap.size w0 w
  row : w.heap[w0.heap.size]? = some (.cells cs 48 (0, 0))
theorem Box.later {w0 w w1 : World} {cs : Array Value} (h : Box w0 cs w) (hb : Below w.heap.size w w1) : Box w0 cs w1 :=
  ⟨h.below.trans (hb.mono h.below.size), by rw [hb.block _ (lt_of_heap h.row)]; exact h.row⟩
theorem Box.lt {w0 w : World} {cs : Array Value} (h : Box w0 cs w) : w0.heap.size < w.heap.size := lt_of_heap h.row
theorem Box.grown {w0 w w1 : World} {cs : Array Value} {v v' : Value} {B n : Nat} {f : Nat → BitVec 8} (h : Box w0 cs w) (hg : GrownV w w1 v v') (ho : Own B v n f w) (hB : w0.heap.size < B) : Box w0 cs w1 := by
  refine ⟨h.below.trans ((hg.below ho).mono (by omega)), ?_⟩
  rw [hg.block h.lt (fun e => by have := (ho.lt e).1; omega)]
  exact h.row
theorem Box.cells {w0 w : World} {x : BitVec 64} {size : Int} {s : Nat → BitVec 8} {n : Nat} {v : Value} (h : Box w0 (noteC x size s n v) w) :
    w.cell? ⟨w0.heap.size, 0, none⟩ = some (.int .u64 (n64 x)) ∧ w.cell? ⟨w0.heap.size, 1, none⟩ = some (.int .i64 size) ∧ w.cell? ⟨w0.heap.size, 2, none⟩ = some (.string (strOf s n)) ∧ w.cell? ⟨w0.heap.size, 3, none⟩ = some v := by
  refine ⟨?_, ?_, ?_, ?_⟩ <;> rw [cell_of_row _ _ _ _ _ _ h.row] <;> rfl
set_option maxRecDepth 100000 in
set_option maxHeartbeats 16000000 in
theorem returns_any (x : BitVec 64) (size : Int) (s f : Nat → BitVec 8) (n : Nat) (a : Option Addr) (len cap : Nat) (w : World) (hn : n ≤ maxLen) (hb : BytesIn w a len f) (hlc : len ≤ cap) (hcm : cap ≤ maxLen) (hsz : len ≤ 140737488355328) (tab : Tab w) :
    Calls Tryd.prog 6 #[.agg (noteC x size s n (.slice a len cap))] w fun e w' => e = .returned (.bool true) ∧ Below w.heap.size w w' := by
  have T0 := Lib.hid tab
  have HB := Lib.hid hb
  have HN := Lib.hid hn
  have hs0 := put_split x size
  have PS := Lib.hid hs0
  clear tab hb hs0 hn hlc hcm
  have row0 : Box w (noteC x size s n (.slice a len cap)) (w.alloc (.cells (noteC x size s n (.slice a len cap)) 48)) := ⟨(Below.refl _ _).alloc (Nat.le_refl _) _, heap_alloc_last _ _⟩
  unfold noteC
  go_enter Tryd.func6, Tryd.ntmps6
  go_wp2_with fail
  have ea : w.alloc (.cells (noteC x size s n (.slice a len cap)) 48) = w.alloc (.cells #[.int .u64 (n64 x), .int .i64 size, .string (strOf s n), .slice a len cap] 48) := rfl
  rw [ea] at row0
  clear ea
  generalize w.alloc _ = wa at *
  refine (counts_any wa (T0.out.later row0.below)).mono ?_
  rintro e w1 ⟨rfl, b1⟩
  have R1 := Lib.hid (row0.later b1)
  clear b1 row0
  obtain ⟨c0, c1, c2, c3⟩ := R1.out.cells
  go_wp2_with fail
  clear c0 c1 c2 c3
  obtain ⟨k, hk, rfl, hx⟩ | ⟨c, hc, hno⟩ := PS.out
  · have PO := Lib.hid (putIn_uint64_ok x k hk hx w1 (T0.out.later R1.out.below))
    have GS := Lib.hid (got_short x k hk hx)
    have GT := Lib.hid (fun (F : Nat → BitVec 8) (L : Nat) (h : ∀ i, i < 2 ^ k → F i = vbyte x k i) (hl : 2 ^ k ≤ L) => got_tuple hk hx h hl)
    have hP : ∃ P : Nat, P = 2 ^ k ∧ 1 ≤ P ∧ P ≤ 8 := ⟨_, rfl, Nat.two_pow_pos k, Nat.le_trans (Nat.pow_le_pow_right (by decide) (by omega : k ≤ 3)) (by decide)⟩
    obtain ⟨P, hP, hP1, hP8⟩ := hP
    unfold PutOk at PO
    simp only [← hP] at PO GS GT R1 ⊢
    clear hP PS
    with_reducible refine PO.out.mono ?_
    rintro e w2 ⟨r, rfl, h2⟩
    have R2 := Lib.hid (R1.out.later h2.below)
    have O2 := Lib.hid (h2.own (by unfold maxLen; omega))
    have Y2 := Lib.hid h2
    clear h2
    have hlt := R2.out.lt
    go_wp2_with fail
    obtain ⟨c0, c1, c2, c3⟩ := R2.out.cells
    have hE := (Own.empty (B := w2.heap.size) (vbyte x k) w2 (Nat.le_refl _)).drew
    have hS := src_in (bytesIn_later (Y2.out.bytesIn (by unfold maxLen; omega)) ((Below.refl w2.heap.size w2).alloc (Nat.le_refl _) (.cells #[] 5)).drew) P
    have hX := R2.out.later ((Below.refl w2.heap.size w2).alloc (Nat.le_refl _) (.cells #[] 5)).drew
    have k1 := hX.cells.2.2.2
    have E1 := Lib.hid hE
    have S1 := Lib.hid hS
    have X1 := Lib.hid hX
    have JF : ∀ f : Nat → BitVec 8, ∀ i, i < P → joinb (joinb (vbyte x k) 0 (vbyte x k)) P f i = vbyte x k i := fun f i hi => by
      unfold joinb
      rw [if_pos (by omega), if_neg (by omega), Nat.sub_zero]
    clear hE hS hX
    go_upto_region 5 with (fail)
    go_region_held3 (fun w' => w'.cell? ⟨w.heap.size, 3, none⟩ = some (.slice a len cap)) (first | assumption | go_keep)
      (first
        | (refine step_append_bytes (o := ⟨some 30, _, _, _, _, _⟩) (by rfl) _ _ 26 (by rfl) (by rfl) (by rfl) E1.out S1.out (by omega) ?_; intro v3 w3 ho3 hg3; rw [Nat.zero_add] at ho3; have x3 := X1.out.grown hg3 E1.out hlt; have k3 := x3.cells.2.2.2)
        | (refine step_append_bytes (o := ⟨some 33, _, _, _, _, _⟩) (by rfl) _ _ 26 (by rfl) (by rfl) (by rfl) ho3 (src_in (bytesIn_later HB.out x3.below) cap) (by omega) ?_; intro v4 w4 ho4 hg4; obtain ⟨g4, cap4, rfl, hc4, hm4, hb4⟩ := ho4.bytesIn (by omega); have x4 := x3.grown hg4 ho3 hlt; have k4 := x4.cells.2.2.2; have gg := get_any _ _ _ _ _ hb4 hc4 hm4; rw [GT.out _ _ (JF f) (by omega)] at gg; have GG := Lib.hid gg; clear gg)
        | (go_at_call 25; refine GG.out.mono ?_; rintro e w' ⟨rfl, rfl⟩))
    have b24 : Below w2.heap.size w2 w4 := ((((Below.refl w2.heap.size w2).alloc (Nat.le_refl _) (.cells #[] 5)).drew).trans (hg3.below E1.out)).trans (hg4.below ho3)
    have hby : BytesIn w4 (some ⟨r, 0, none⟩) (P - 1) (vbyte x k) := by
      have h := bytesIn_later (Y2.out.bytesIn (by unfold maxLen; omega)) b24
      exact ⟨by unfold maxLen; omega, h.2.elim (fun h => .inl (by omega)) (fun ⟨b, o, e, hl, hc⟩ => .inr ⟨b, o, e, hl, fun i hi => hc i (by omega)⟩)⟩
    have gs := get_any (vbyte x k) (some ⟨r, 0, none⟩) (P - 1) P w4 hby (by omega) (by unfold maxLen; omega)
    rw [GS.out] at gs
    have GG2 := Lib.hid gs
    have X4 := Lib.hid x4
    clear gs hby b24 ho3 hg3 x3 k3 ho4 hg4 x4 k4 hb4 hc4 hm4 GG E1 S1 X1 k1 O2 Y2 R2 c0 c1 c2 c3 hlt JF
    obtain ⟨c0, c1, c2, c3⟩ := X4.out.cells
    go_wp2_with fail
    with_reducible refine GG2.out.mono ?_
    rintro e w' ⟨rfl, rfl⟩
    go_wp2_with fail
    clear GG2 GS GT PO R1 c0 c1 c2 c3
    by_cases hn5 : n ≤ 65535
    · have TO := Lib.hid (text_ok s n w4 hn5 (T0.out.later X4.out.below))
      have TT := Lib.hid (fun (F : Nat → BitVec 8) (L : Nat) (h : ∀ i, i < textK n + n → F i = textB n s i) (hl : textK n + n ≤ L) => text_tuple hn5 h hl)
      obtain ⟨hM1, hM2⟩ : 1 ≤ textK n + n ∧ textK n + n ≤ 70000 := by have := textK_pos n; omega
      generalize textK n + n = M at *
      with_reducible refine TO.out.mono ?_
      rintro e w5 ⟨v5, rfl, ho5, hb5⟩
      have X5 := X4.out.later hb5
      obtain ⟨g5, cap5, rfl, hc5, hm5, hby5⟩ := ho5.bytesIn (by omega)
      have hlt := X5.lt
      obtain ⟨c0, c1, c2, c3⟩ := X5.cells
      have hE := (Own.empty (B := w5.heap.size) (textB n s) w5 (Nat.le_refl _)).drew
      have hS := src_in (bytesIn_later hby5 ((Below.refl w5.heap.size w5).alloc (Nat.le_refl _) (.cells #[] 5)).drew) cap5
      have hX := X5.later ((Below.refl w5.heap.size w5).alloc (Nat.le_refl _) (.cells #[] 5)).drew
      have k1 := hX.cells.2.2.2
      have E1 := Lib.hid hE
      have S1 := Lib.hid hS
      have X1 := Lib.hid hX
      have JF : ∀ f : Nat → BitVec 8, ∀ i, i < M → joinb (joinb (textB n s) 0 (textB n s)) M f i = textB n s i := fun f i hi => by
        unfold joinb
        rw [if_pos (by omega), if_neg (by omega), Nat.sub_zero]
      clear hE hS hX TO ho5 hby5 hb5 X4 X5
      go_upto_region 12 with (fail)
      go_region_held3 (fun w' => w'.cell? ⟨w.heap.size, 3, none⟩ = some (.slice a len cap)) (first | assumption | go_keep)
        (first
          | (refine step_append_bytes (o := ⟨some 89, _, _, _, _, _⟩) (by rfl) _ _ 26 (by rfl) (by rfl) (by rfl) E1.out S1.out (by omega) ?_; intro v6 w6 ho6 hg6; rw [Nat.zero_add] at ho6; have x6 := X1.out.grown hg6 E1.out hlt; have k6 := x6.cells.2.2.2)
          | (refine step_append_bytes (o := ⟨some 92, _, _, _, _, _⟩) (by rfl) _ _ 26 (by rfl) (by rfl) (by rfl) ho6 (src_in (bytesIn_later HB.out x6.below) cap) (by omega) ?_; intro v7 w7 ho7 hg7; obtain ⟨g7, cap7, rfl, hc7, hm7, hb7⟩ := ho7.bytesIn (by omega); have x7 := x6.grown hg7 ho6 hlt; have k7 := x7.cells.2.2.2; have gg := getText_any _ _ _ _ _ hb7 hc7 hm7; rw [TT.out _ _ (JF f) (by omega)] at gg; have GG := Lib.hid gg; clear gg)
          | (go_at_call 27; refine GG.out.mono ?_; rintro e w' ⟨rfl, rfl⟩))
      have X7 := Lib.hid x7
      clear k7 x7 hb7 hc7 hm7 GG ho7 hg7 k6 x6 ho6 hg6 JF X1 S1 E1 k1 TT c0 c1 c2 c3 hlt
      obtain ⟨c0, c1, c2, c3⟩ := X7.out.cells
      go_wp2_with fail
      go_ret
      exact ⟨rfl, X7.out.below⟩
    · have hnn := HN.out
      have hbig := text_big s n w4 (by omega) hnn
      have TB := Lib.hid hbig
      have hsz2 := strOf_size s n
      have hn6 : (65535 : Int) < (n : Int) := by omega
      have hn7 : n ≤ 9223372036854775807 := by unfold maxLen at hnn; omega
      clear hbig hnn hn5
      obtain ⟨c0, c1, c2, c3⟩ := X4.out.cells
      with_reducible refine TB.out.mono ?_
      rintro e w' ⟨rfl, rfl⟩
      go_wp2_with fail
      go_ret
      exact ⟨rfl, X4.out.below⟩
  · have NO := Lib.hid (hno w1)
    have HC := Lib.hid hc
    clear hno PS
    with_reducible refine NO.out.mono ?_
    rintro e w' ⟨rfl, rfl⟩
    obtain ⟨c0, c1, c2, c3⟩ := R1.out.cells
    have hc := HC.out
    go_wp2_with fail
    clear c0 c1 c2 c3 hc HC NO
    by_cases hn5 : n ≤ 65535
    · have TO := Lib.hid (text_ok s n w1 hn5 (T0.out.later R1.out.below))
      have TT := Lib.hid (fun (F : Nat → BitVec 8) (L : Nat) (h : ∀ i, i < textK n + n → F i = textB n s i) (hl : textK n + n ≤ L) => text_tuple hn5 h hl)
      obtain ⟨hM1, hM2⟩ : 1 ≤ textK n + n ∧ textK n + n ≤ 70000 := by have := textK_pos n; omega
      generalize textK n + n = M at *
      with_reducible refine TO.out.mono ?_
      rintro e w5 ⟨v5, rfl, ho5, hb5⟩
      have X5 := R1.out.later hb5
      obtain ⟨g5, cap5, rfl, hc5, hm5, hby5⟩ := ho5.bytesIn (by omega)
      have hlt := X5.lt
      obtain ⟨c0, c1, c2, c3⟩ := X5.cells
      have hE := (Own.empty (B := w5.heap.size) (textB n s) w5 (Nat.le_refl _)).drew
      have hS := src_in (bytesIn_later hby5 ((Below.refl w5.heap.size w5).alloc (Nat.le_refl _) (.cells #[] 5)).drew) cap5
      have hX := X5.later ((Below.refl w5.heap.size w5).alloc (Nat.le_refl _) (.cells #[] 5)).drew
      have k1 := hX.cells.2.2.2
      have E1 := Lib.hid hE
      have S1 := Lib.hid hS
      have X1 := Lib.hid hX
      have JF : ∀ f : Nat → BitVec 8, ∀ i, i < M → joinb (joinb (textB n s) 0 (textB n s)) M f i = textB n s i := fun f i hi => by
        unfold joinb
        rw [if_pos (by omega), if_neg (by omega), Nat.sub_zero]
      clear hE hS hX TO ho5 hby5 hb5 R1 X5
      go_upto_region 12 with (fail)
      go_region_held3 (fun w' => w'.cell? ⟨w.heap.size, 3, none⟩ = some (.slice a len cap)) (first | assumption | go_keep)
        (first
          | (refine step_append_bytes (o := ⟨some 89, _, _, _, _, _⟩) (by rfl) _ _ 26 (by rfl) (by rfl) (by rfl) E1.out S1.out (by omega) ?_; intro v6 w6 ho6 hg6; rw [Nat.zero_add] at ho6; have x6 := X1.out.grown hg6 E1.out hlt; have k6 := x6.cells.2.2.2)
          | (refine step_append_bytes (o := ⟨some 92, _, _, _, _, _⟩) (by rfl) _ _ 26 (by rfl) (by rfl) (by rfl) ho6 (src_in (bytesIn_later HB.out x6.below) cap) (by omega) ?_; intro v7 w7 ho7 hg7; obtain ⟨g7, cap7, rfl, hc7, hm7, hb7⟩ := ho7.bytesIn (by omega); have x7 := x6.grown hg7 ho6 hlt; have k7 := x7.cells.2.2.2; have gg := getText_any _ _ _ _ _ hb7 hc7 hm7; rw [TT.out _ _ (JF f) (by omega)] at gg; have GG := Lib.hid gg; clear gg)
          | (go_at_call 27; refine GG.out.mono ?_; rintro e w' ⟨rfl, rfl⟩))
      have X7 := Lib.hid x7
      clear k7 x7 hb7 hc7 hm7 GG ho7 hg7 k6 x6 ho6 hg6 JF X1 S1 E1 k1 TT c0 c1 c2 c3 hlt
      obtain ⟨c0, c1, c2, c3⟩ := X7.out.cells
      go_wp2_with fail
      go_ret
      exact ⟨rfl, X7.out.below⟩
    · have hnn := HN.out
      have hbig := text_big s n w1 (by omega) hnn
      have TB := Lib.hid hbig
      have hsz2 := strOf_size s n
      have hn6 : (65535 : Int) < (n : Int) := by omega
      have hn7 : n ≤ 9223372036854775807 := by unfold maxLen at hnn; omega
      clear hbig hnn hn5
      obtain ⟨c0, c1, c2, c3⟩ := R1.out.cells
      with_reducible refine TB.out.mono ?_
      rintro e w' ⟨rfl, rfl⟩
      go_wp2_with fail
      go_ret
      exact ⟨rfl, R1.out.below⟩
set_option maxRecDepth 100000 in
theorem open_note {H : Type} {enc : TypeId × Value → H} {w : World} {base : Nat} {v : Value} {d : DataW H} {p : List MemPlace} (hk : Value.okWide Tryd.prog w .any base 48 v)
    (h : DataW.Trod enc Tryd.prog w 0 (fun _ => true) true 48 v d p) (hz : ∀ n ∈ DataW.weights Tryd.prog 48 d, n ≤ reachBytes) :
    ∃ x size s n a len cap f, v = .agg (noteC x size s n (.slice a len cap)) ∧ n ≤ maxLen ∧ BytesIn w a len f ∧ len ≤ cap ∧ cap ≤ maxLen ∧ len ≤ 140737488355328 := by
  obtain ⟨v0, v1, v2, v3, y0, y1, y2, y3, m, rfl, rfl, _, h0, h1, h2, h3⟩ := Joins.open_agg4 Tryd.underlying48 (by kernel_rfl) (by kernel_rfl) hk h
  have hw : ∀ n ∈ DataW.weights Tryd.prog 26 y3.1, n ≤ reachBytes := fun n hn => hz n (by
    rw [DataW.weights, Tryd.underlying48]
    exact DataW.weights_mem_each (j := 3) (t := 26) (d := y3.1) rfl rfl n hn)
  obtain ⟨x, e0, _, wx⟩ := DataW.trod_int (show Tryd.prog.underlying 22 = some (.int .u64) from by kernel_rfl) h0
  obtain ⟨z, e1, _, wz⟩ := DataW.trod_int (show Tryd.prog.underlying 3 = some (.int .i64) from by kernel_rfl) h1
  obtain ⟨s, e2, _, hs⟩ := DataW.trod_string (show Tryd.prog.underlying 9 = some .string from by kernel_rfl) h2
  simp only [List.cons.injEq, and_true] at e0 e1 e2
  subst e0 e1 e2
  obtain ⟨g, hg⟩ := str_as s
  obtain ⟨a, len, cap, f, rfl, hb, hlc, hcm, hR⟩ := open_bytes_at h3
  have hsz := hR reachBytes hw
  refine ⟨BitVec.ofInt 64 x, z, g, s.size, a, len, cap, f, ?_, hs, hb, hlc, hcm, Nat.le_trans hsz (by decide)⟩
  unfold noteC
  rw [← n64_of_wf x wx, ← hg]
set_option maxRecDepth 100000 in
theorem walk {H : Type} {enc : TypeId × Value → H} (w : World) (base : Nat) (v0 : Value) (d0 : DataW H) (p0 : List MemPlace)
    (k0 : Value.okWide Tryd.prog w .any base 48 v0)
    (h0 : DataW.Trod enc Tryd.prog w 0 (fun _ => true) true 48 v0 d0 p0) (z0 : ∀ n ∈ DataW.weights Tryd.prog 48 d0, n ≤ reachBytes) (tab : Tab w) :
    Calls Tryd.prog 6 #[v0] w fun e w' => e = .returned (.bool true) ∧ Below w.heap.size w w' := by
  obtain ⟨x, size, s, n, a, len, cap, f, rfl, hn, hb, hlc, hcm, hsz⟩ := open_note k0 h0 z0
  exact returns_any x size s f n a len cap w hn hb hlc hcm hsz tab
set_option maxRecDepth 100000 in
theorem lifted (os : Os) (started : os.Started) (H : Type) (enc : TypeId × Value → H) :
    ReturnsInHanded {} Tryd.checked os 6 .any (fun w args => (Rows.vlqReturnsSpec.pre enc Tryd.prog Tryd.f6 [] false w args ∧ laidMetH Tryd.prog laids w) ∧ sizedMet enc Tryd.prog Tryd.f6 (OpenSpec.ofChange Rows.vlqReturnsSpec) false w args)
      (Rows.vlqReturnsSpec.post enc Tryd.prog Tryd.f6 false true false false) := by
  refine returnsInHanded_of_change_and (C := Tryd.checked) (X := fun w _ => laidMetH Tryd.prog laids w) (fun _ _ _ hh h => h.of_heap hh) own started (by kernel_rfl) Tryd.func6
    (ChangeSpec.witness_shaped (enc := enc) (C := Tryd.checked) (os := os) (X := fun w _ => laidMetH Tryd.prog laids w) false (World.doorLaid Tryd.prog 19 os) #[.agg #[.int .u64 0, .int .i64 0, .string ⟨#[]⟩, .slice none 0 0]] 8 rfl (World.shaped_of_RefB (by kernel_rfl) (by kernel_rfl)) (by kernel_rfl) (by kernel_rfl) (by kernel_rfl) (door_met os _)) ?_
  intro W base args ds gs before hval0 hW _ hsz0 hL _
  have hval : ∀ (j : Nat) t v, Tryd.f6.params[j]? = some t → args[j]? = some v → Value.okWide Tryd.prog W .any base t v := hval0
  have hW' := hW
  obtain ⟨p, q, hA0, hV, rfl, hfz, hnd⟩ := hW
  have hA : DataW.TrodAll enc Tryd.prog W 0 (fun _ => true) true Tryd.f6.params.toList args.toList ds p := hA0
  rw [Tryd.params6] at hA hval
  obtain ⟨v0, vs0, d0, ds0, p0, q0, hargs, rfl, rfl, h0, r0⟩ := trodAll_cons hA
  obtain ⟨rfl, rfl, rfl⟩ := trodAll_nil r0
  obtain rfl : args = #[v0] := by cases args; simp_all
  obtain ⟨rfl, rfl⟩ := trodVars_none hV
  have k0 := h0
  have lt0 : ∀ x ∈ p0, x.block < W.heap.size := by obtain ⟨m, hm⟩ := k0; exact DataW.trod_lt m _ _ _ hm
  have z0 : ∀ n ∈ DataW.weights Tryd.prog 48 d0, n ≤ reachBytes := fun n hn => by
    have h1 := List.all_eq_true.1 hsz0 n (DataW.weights_mem_each (j := 0) (by rw [Tryd.params6]; rfl) rfl n hn)
    simpa using h1
  clear hA0 hval0
  refine (walk W base v0 d0 p0 (hval 0 48 v0 rfl rfl) k0 z0 (tab_of_laid hL)).mono fun e W' ⟨he, bel⟩ => ?_
  subst he
  exact ⟨_, rfl, _, _, _, [], _, [], hW', trodAll_mk1 (shut_bool Tryd.underlying4 _), (trodAll_cons_mk (Below.trod laidOut (by kernel_rfl) (of_decide_eq_true (by kernel_rfl)) k0 bel lt0) trodAll_mk0), rfl, bel.frame _, fun h => by cases h⟩
theorem over : Rows.VlqReturnsSaid :=
  OpenClaim.holds_of_wide 6 Tryd.f6 rfl rfl rfl rfl rfl rfl rfl ⟨rfl, rfl, rfl, rfl, rfl⟩ rfl rfl rfl rfl rfl (by kernel_rfl) Tryd.func6 (by kernel_rfl)
    (of_decide_eq_true (by kernel_rfl)) (by unfold Func.isWrapper; first | (rw [if_pos (by decide +kernel)]; kernel_rfl) | (rw [if_neg (by decide +kernel)]; exact ⟨rfl, rfl⟩))
    (fun os started H enc _ => lifted os started H enc)
theorem proved : Rows.VlqReturnsCardSaid :=
  Claim7.holds_tied_plain_at .later [] [.data, .data] true (true, "e64395a9766b199dc9aae543bb771f0a2c891cedd0dc0b094b7c817878d5574e") false
    over (fun _ h => by cases h) (by kernel_rfl) (fun _ h => by cases h) vlqReturns_row_tie rfl ⟨rfl, rfl⟩ (by kernel_rfl) rfl
    (fun f fn hf hfn => by
      obtain rfl : f = 6 := Option.some.inj ((show Tryd.prog.funcNamed "rhyne/rhynelaw07.VlqReturns" = some 6 by kernel_rfl).symm.trans hf) |>.symm
      obtain rfl : fn = Tryd.f6 := (Option.some.inj (Tryd.func6.symm.trans hfn)).symm
      exact ⟨by kernel_rfl, fun j t ht => by
        rw [Tryd.params6] at ht
        have hm : t ∈ [48] := by simpa using Array.mem_of_getElem? ht
        have hall : ([48].all fun u => !Tryd.prog.wantsStandIn u) = true := by kernel_rfl
        exact (show Tryd.prog.wantsStandIn t = false by simpa using List.all_eq_true.1 hall t hm)⟩)
    (by kernel_rfl)
end Go.Proofs.YtfikcjbdbablpaaDoor.vlqReturns
