/-
  WHAT Put AND PutIn ANSWER, in one contract each: the text and the error, as functions of the number.
-/
import Derived.Test.YtcgbhcmgddgheabDoorVlqC
namespace Go.Proofs.YtcgbhcmgddgheabDoor
open Go Go.RowKit Go.BigFrame
/-- v's bytes are the text s, in w and later. -/
def BytesAre (v : Value) (s : ByteArray) (w : World) : Prop := ∀ w1, Below w.heap.size w w1 → (convert 28 9 v).run Tryd.prog w1 = .ok (.string s) w1
theorem BytesAre.later {v : Value} {s : ByteArray} {w w1 : World} (h : BytesAre v s w) (hb : Below w.heap.size w w1) : BytesAre v s w1 := fun w2 h2 => h w2 (hb.trans (h2.mono hb.size))
theorem BytesAre.now {v : Value} {s : ByteArray} {w : World} (h : BytesAre v s w) : (convert 28 9 v).run Tryd.prog w = .ok (.string s) w := h w (Below.refl _ _)
theorem bytesAre_nil (w : World) : BytesAre (.slice none 0 0) ⟨#[]⟩ w := fun w1 _ => by
  have h1 : Tryd.prog.underlying 28 = some (.slice 5) := by kernel_rfl
  have h2 : Tryd.prog.underlying 9 = some .string := by kernel_rfl
  have h3 : Tryd.prog.underlying 5 = some (.int .u8) := by kernel_rfl
  simp [convert, run_underlying h1, run_underlying h2, run_underlying h3, Sem.run_bind]
  rfl
theorem bytesAre_row {w0 w : World} {r n : Nat} {f : Nat → BitVec 8} (h : MyRow w0 r n 5 f w) (c : Nat) : BytesAre (.slice (some ⟨r, 0, none⟩) n c) (strOf f n) w := fun _ h2 => conv_bytes (h.later h2) c
def putE (x : BitVec 64) : Int := if x.toNat < 2 ^ 62 then 0 else 5
def putS (x : BitVec 64) : ByteArray := if x.toNat < 2 ^ 62 then strOf (vbyte x (least x)) (2 ^ least x) else ⟨#[]⟩
/-- The size's place among the four, if it is one of them. -/
def sizeK (size : Int) : Option Nat := if size = 1 then some 0 else if size = 2 then some 1 else if size = 4 then some 2 else if size = 8 then some 3 else none
def putInE (x : BitVec 64) (size : Int) : Int := match sizeK size with | none => 1 | some k => if x.toNat < 2 ^ (8 * 2 ^ k - 2) then 0 else 5
def putInS (x : BitVec 64) (size : Int) : ByteArray := match sizeK size with | none => ⟨#[]⟩ | some k => if x.toNat < 2 ^ (8 * 2 ^ k - 2) then strOf (vbyte x k) (2 ^ k) else ⟨#[]⟩
theorem sizeK_some {size : Int} {k : Nat} (h : sizeK size = some k) : k < 4 ∧ size = ((2 ^ k : Nat) : Int) := by
  unfold sizeK at h
  split at h
  · cases h; exact ⟨by decide, by assumption⟩
  · split at h
    · cases h; exact ⟨by decide, by assumption⟩
    · split at h
      · cases h; exact ⟨by decide, by assumption⟩
      · split at h
        · cases h; exact ⟨by decide, by assumption⟩
        · cases h
theorem sizeK_none {size : Int} (h : sizeK size = none) : size ≠ 1 ∧ size ≠ 2 ∧ size ≠ 4 ∧ size ≠ 8 := by
  unfold sizeK at h
  split at h
  · cases h
  · split at h
    · cases h
    · split at h
      · cases h
      · split at h
        · cases h
        · exact ⟨by assumption, by assumption, by assumption, by assumption⟩
def PutRes (s : ByteArray) (c : Int) (w : World) (e : Ending) (w' : World) : Prop := ∃ v, e = .returned (.tuple #[v, .int .i64 c]) ∧ Below w.heap.size w w' ∧ BytesAre v s w'
theorem PutOk.res {x : BitVec 64} {k : Nat} {w w' : World} {e : Ending} (h : PutOk x k w e w') : PutRes (strOf (vbyte x k) (2 ^ k)) 0 w e w' := by
  obtain ⟨r, he, hr⟩ := h
  exact ⟨_, he, hr.below, bytesAre_row hr _⟩
theorem PutNo.res {c : Int} {w w' : World} {e : Ending} (h : PutNo c w e w') : PutRes ⟨#[]⟩ c w e w' := by
  obtain ⟨he, rfl⟩ := h
  exact ⟨_, he, Below.refl _ _, bytesAre_nil _⟩
theorem refIn_any (x : BitVec 64) (size : Int) (w : World) :
    Calls Tryd.prog 46 #[.int .u64 (n64 x), .int .i64 size] w fun e w' => e = .returned (.tuple #[.string (putInS x size), .int .i64 (putInE x size)]) ∧ Below w.heap.size w w' := by
  unfold putInS putInE
  cases h : sizeK size with
  | none =>
    obtain ⟨h1, h2, h4, h8⟩ := sizeK_none h
    exact (refIn_arg x size h1 h2 h4 h8 w).mono fun e w' h => ⟨h.1, by rw [h.2]; exact Below.refl _ _⟩
  | some k =>
    obtain ⟨hk, rfl⟩ := sizeK_some h
    by_cases hx : x.toNat < 2 ^ (8 * 2 ^ k - 2)
    · simp only [if_pos hx]
      exact refIn_ok x k hk hx w
    · simp only [if_neg hx]
      exact (refIn_big x k hk hx w).mono fun e w' h => ⟨h.1, by rw [h.2]; exact Below.refl _ _⟩
theorem refPut_any (x : BitVec 64) (w : World) :
    Calls Tryd.prog 30 #[.int .u64 (n64 x)] w fun e w' => e = .returned (.tuple #[.string (putS x), .int .i64 (putE x)]) ∧ Below w.heap.size w w' := by
  unfold putS putE
  by_cases hx : x.toNat < 2 ^ 62
  · simp only [if_pos hx]
    exact refPut_ok x hx w
  · simp only [if_neg hx]
    exact (refPut_big x hx w).mono fun e w' h => ⟨h.1, by rw [h.2]; exact Below.refl _ _⟩
theorem put_int_any (m : Int) (x : BitVec 64) (hm : IntKind.u64.wrap m = n64 x) (w : World) (tab : Tab w) : Calls Tryd.prog 47 #[.int .i64 m] w (PutRes (putS x) (putE x) w) := by
  unfold putS putE
  by_cases hx : x.toNat < 2 ^ 62
  · simp only [if_pos hx]
    exact (put_int_ok m x hm hx w tab).mono fun e w' h => h.res
  · simp only [if_neg hx]
    exact (put_int_big m x hm hx w).mono fun e w' h => h.res

theorem n64_of_wf (n : Int) (h : (Lit.int .u64 n).wf = true) : n = n64 (BitVec.ofInt 64 n) := by
  have hx : 0 ≤ n ∧ n ≤ 18446744073709551615 := by simpa [Lit.wf, IntKind.min, IntKind.max, IntKind.signed, IntKind.bits] using h
  rw [← wrap_n64, IntKind.wrap_u64]
  omega
theorem n8_of_wf' (n : Int) (h : (Lit.int .u8 n).wf = true) : n = n8 (BitVec.ofInt 8 n) := by
  have hx : 0 ≤ n ∧ n ≤ 255 := by simpa [Lit.wf, IntKind.min, IntKind.max, IntKind.signed, IntKind.bits] using h
  rw [← wrap_n8, IntKind.wrap_u8]
  omega

end Go.Proofs.YtcgbhcmgddgheabDoor
