/-
  The document's frame; a first message ('framed').
-/
import Derived.Test.YtgblfljbfaaipaaDoqB
import Derived.Test.YtgblfljbfaaipaaDoqC
namespace Go.Proofs.Ytgblfljbfaaipaa
open Go Go.RowKit Go.BigFrame
set_option linter.unusedSimpArgs false
set_option linter.unusedVariables false
set_option maxRecDepth 100000
theorem conv_in (f : Nat → BitVec 8) (a : Option Addr) (m c : Nat) (w : World) (h : BytesIn w a m f) :
    (convert 23 9 (.slice a m c)).run Try.prog w = .ok (.string (strOf f m)) w := by
  rcases h.2 with rfl | ⟨b, o, rfl, _, hc⟩
  · have h1 : Try.prog.underlying 23 = some (.slice 5) := by kernel_rfl
    have h2 : Try.prog.underlying 9 = some .string := by kernel_rfl
    have h3 : Try.prog.underlying 5 = some (.int .u8) := by kernel_rfl
    cases a with
    | none =>
      simp [convert, run_underlying h1, run_underlying h2, run_underlying h3, Sem.run_bind]
      rfl
    | some x =>
      have h := run_convert_bytes_back (P := Try.prog) w 23 9 5 x c [] (by kernel_rfl) (by kernel_rfl) (by kernel_rfl) (fun j hj => by simp at hj)
      exact h
  · exact conv_str f b o m c w hc
theorem OwnAt.bytesIn {B n : Nat} {v : Value} {f : Nat → BitVec 8} {w : World} (h : OwnAt B v n f w) : ∃ a c, v = .slice a n c ∧ BytesIn w a n f ∧ n ≤ c ∧ c ≤ maxLen := by
  rcases h.row with ⟨rfl, rfl⟩ | ⟨g, o, cap, cur, rfl, hB, hg, h1, h2, h3, h4⟩
  · exact ⟨none, 0, rfl, ⟨Nat.zero_le _, .inl rfl⟩, Nat.le_refl _, Nat.zero_le _⟩
  · exact ⟨some ⟨g, o, none⟩, cap, rfl, ⟨Nat.le_trans h1 h2, .inr ⟨g, o, rfl, lt_row hg, fun i hi => by rw [cell_of_row _ _ _ _ _ _ hg]; exact h4 i hi⟩⟩, h1, h2⟩
theorem freeze_new (w : World) (C : Array Value) (e : TypeId) (n : Nat) : (w.alloc (.cells C e)).freeze ⟨w.heap.size, n, none⟩ 1 = w.alloc (.cells C e (n, n + 1)) := by
  have hm : ∀ (a : Array Obj) (x : Obj) (f : Obj → Obj), (a.push x).modify a.size f = a.push (f x) := by
    intro a x f
    apply Array.ext
    · simp
    · intro i h1 h2
      simp only [Array.getElem_modify, Array.getElem_push]
      by_cases h : a.size = i
      · subst h
        simp
      · have hi : i < a.size := by simp at h1; omega
        simp [h, hi]
  unfold World.freeze
  rw [if_neg (by decide)]
  show ({ w.alloc (.cells C e) with heap := (w.heap.push (.cells C e)).modify w.heap.size _ } : World) = _
  rw [hm]
  rfl
theorem conv_same (w : World) (C : Array Value) (e : TypeId) (n c : Nat) : (convert 23 23 (.slice (some ⟨w.heap.size, 0, none⟩) n c)).run Try.prog (w.alloc (.cells C e)) = .ok (.slice (some ⟨w.heap.size, 0, none⟩) n c) (w.alloc (.cells C e (C.size, C.size + 1))) := by
  have hu : Try.prog.underlying 23 = some (.slice 5) := by kernel_rfl
  have h8 : Try.prog.underlying 5 = some (.int .u8) := by kernel_rfl
  have hsh : (w.alloc (.cells C e)).shape? w.heap.size = some (e, C.size) := by
    unfold World.shape?
    rw [show (w.alloc (.cells C e)).heap[w.heap.size]? = some (.cells C e) from heap_alloc_last _ _]
  have h1 : (convert 23 23 (.slice (some ⟨w.heap.size, 0, none⟩) n c)).run Try.prog (w.alloc (.cells C e)) = .ok (.slice (some ⟨w.heap.size, 0, none⟩) n c) ((w.alloc (.cells C e)).freeze ⟨w.heap.size, C.size, none⟩ 1) := by
    unfold convert
    simp only [Sem.run_bind, run_underlying hu, Result.andThen_ok, run_underlying h8]
    simp [markStringish, hsh, Sem.run_bind, run_underlying h8]
  rw [h1, freeze_new]
theorem hdF_two (m : Nat) (i : Nat) (h : i < 2) : joinb (hdF m) 2 (fun _ => 0#8) i = hdF m i := by unfold joinb; rw [if_pos h]
set_option maxHeartbeats 2000000 in
theorem docFrame_ok (f : Nat → BitVec 8) (m : Nat) (hm : m ≤ 65535) (hm1 : 1 ≤ m) (w : World) :
    Calls Try.prog 10 #[.string (strOf f m)] w fun e w' => e = .returned (.tuple #[.string (strOf (frF f m) (2 + m)), .int .i64 0]) ∧ Below w.heap.size w w' := by
  have e2 := strOf_size f m
  have ez := str_none f m
  rw [decide_eq_false (by omega : ¬ m = 0)] at ez
  obtain ⟨q0, q1⟩ := hd_bytes m hm
  have cv := conv_str (hdF m) w.heap.size 0 2 2 (w.alloc (.cells #[.int .u8 ((m : Int) / 256), .int .u8 ((m : Int) % 256)] 5)) (fun i hi => by
    rw [Nat.zero_add, cell_of_row _ _ _ _ _ _ (heap_alloc_last w _), q0, q1]
    rcases (show i = 0 ∨ i = 1 by omega) with rfl | rfl <;> rfl)
  have ej := str_join (hdF m) f (frF f m) 2 m (fun i hi => by unfold frF joinb; rw [if_pos hi]) (fun i hi => by unfold frF joinb; rw [if_neg (by omega), show 2 + i - 2 = i by omega])
  have e3 := strOf_size (hdF m) 2
  have HB := Lib.hid (((Below.refl w.heap.size w).alloc (Nat.le_refl _) (.cells #[.int .u8 ((m : Int) / 256), .int .u8 ((m : Int) % 256)] 5)))
  generalize strOf f m = S at *
  generalize strOf (hdF m) 2 = T at *
  generalize strOf (frF f m) (2 + m) = U at *
  have h1 : ¬ (m : Int) > 65535 := by omega
  have h2 : ¬ 9223372036854775807 < 2 + m := by omega
  clear q0 q1
  go_enter Try.func10, Try.ntmps10
  go_wp2_with fail
  go_ret2
  exact ⟨rfl, HB.out⟩
/-- A new reader. -/
theorem Rdr.made (B : Nat) (f : Nat → BitVec 8) (w : World) (hB : B ≤ w.heap.size) : Rdr B w.heap.size (.slice none 0 0) false 0 f (w.alloc (.cells (rdC (.slice none 0 0) false) RT)) :=
  ⟨heap_alloc_last _ _, ⟨.inl ⟨rfl, rfl⟩, by simp; omega⟩, hB, fun h => by cases h⟩
/-- Rows that a call of the reader leaves. -/
def Aside (x : Value) (r : Nat) (v : Value) (w : World) : Prop := ∀ k, x.ownBlock = some k → k < w.heap.size ∧ k ≠ r ∧ v.ownBlock ≠ some k
theorem Aside.turn {x v v' : Value} {B r : Nat} {w w' : World} (h : Aside x r v w) (t : TurnR B r v v' w w') : Aside x r v' w' := fun k hk => by
  obtain ⟨h1, h2, h3⟩ := h k hk
  refine ⟨Nat.lt_of_lt_of_le h1 t.size, h2, ?_⟩
  rcases t.blk with e | ⟨j, e, hj⟩
  · rw [e]; exact h3
  · rw [e]; intro e2; injection e2 with e2; omega
theorem OwnAt.turn {x v v' : Value} {B B2 r n : Nat} {f : Nat → BitVec 8} {w w' : World} (ho : OwnAt B2 x n f w) (h : Aside x r v w) (t : TurnR B r v v' w w') : OwnAt B2 x n f w' :=
  ho.kept t.size (fun g hg hl => t.block g hl (h g hg).2.1 (h g hg).2.2)
def abF (i : Nat) : BitVec 8 := if i = 0 then 97#8 else 98#8
def a02F (i : Nat) : BitVec 8 := if i = 0 then 0#8 else if i = 1 then 2#8 else 97#8
theorem lit_02a : (⟨#[0, 2, 97]⟩ : ByteArray) = strOf a02F 3 := rfl
theorem cnt_02a (f : Nat → BitVec 8) : cnt (joinb f 0 a02F) = 2 := rfl
theorem frame_ab : strOf (frF abF 2) 4 = ⟨#[0, 2, 97, 98]⟩ := by
  have h : ∀ i, i < 4 → frF abF 2 i = (fun i => if i = 0 then 0#8 else if i = 1 then 2#8 else if i = 2 then 97#8 else 98#8 : Nat → BitVec 8) i := by decide
  rw [(strOf_eq _ _ 4).2 h]
  rfl
end Go.Proofs.Ytgblfljbfaaipaa
