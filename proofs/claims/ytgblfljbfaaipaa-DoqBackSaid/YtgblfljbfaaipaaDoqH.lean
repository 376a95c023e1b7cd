/-
  MESSAGES FRAMED ONE BEHIND THE OTHER, fed in pieces: what Next answers of them.
-/
import Derived.Test.YtgblfljbfaaipaaDoqG
import Derived.Test.YtgblfljbfaaipaaOwnZ
import Derived.Laws.IdiomStrings
import Derived.Deep.Slices
namespace Go.Proofs.Ytgblfljbfaaipaa
open Go Go.RowKit Go.ChangeShapes Go.WideShapes Go.BigFrame
set_option linter.unusedSimpArgs false
set_option linter.unusedVariables false
/-- '[]byte(text)'. -/
theorem conv_ownZ (f : Nat → BitVec 8) (n : Nat) (hn : n ≤ 1000000) (w : World) (B : Nat) (hB : B ≤ w.heap.size) : ∃ v w', (convert 9 23 (.string (strOf f n))).run Try.prog w = .ok v w' ∧ OwnZ B v n f w' ∧ Below w.heap.size w w' := by
  have hr := run_bytes_of_string (P := Try.prog) w 9 23 5 (strOf f n) (by kernel_rfl) (by kernel_rfl) (by kernel_rfl)
  rw [strOf_size] at hr
  refine ⟨_, _, hr, ⟨.inr ⟨w.heap.size, _, _, _, rfl, hB, heap_alloc_new w.drew _, .inr (Nat.le_refl _), grownCap_ge _ _ _ _, ?_, ?_, ?_⟩, by simp; exact Nat.le_succ_of_le hB⟩, (Below.refl _ _).drew.alloc (by exact Nat.le_refl _) _⟩
  · have := grownCap_le_maxLen w n 0 5 (by unfold maxLen; omega)
    exact this
  · have hge := grownCap_ge w n 0 5
    unfold bytesRow
    rw [Array.size_append, Array.size_map, Array.size_replicate, strOf_size, show (strOf f n).data.size = n from strOf_size f n]
    omega
  · intro j hj
    unfold bytesRow
    rw [Array.getElem?_append_left (by rw [Array.size_map, show (strOf f n).data.size = n from strOf_size f n]; exact hj), Array.getElem?_map]
    have hd : (strOf f n).data[j]? = some (UInt8.ofBitVec (f j)) := by
      show (strL f n).toArray[j]? = _
      simp [strL, hj]
    rw [hd, n8_u8]
    rfl
/-- Texts that came in. -/
structure StrsIn (w : World) (a : Option Addr) (n : Nat) (S : Nat → Nat → BitVec 8) (Z : Nat → Nat) : Prop where
  le : n ≤ maxLen
  cells : n = 0 ∨ ∃ b off, a = some ⟨b, off, none⟩ ∧ b < w.heap.size ∧ ∀ i, i < n → w.cell? ⟨b, off + i, none⟩ = some (.string (strOf (S i) (Z i)))
set_option maxRecDepth 100000 in
theorem open_strs {H : Type} {enc : TypeId × Value → H} {w : World} {base : Nat} {v : Value} {d : DataW H} {p : List MemPlace} (hk : Value.okWide Try.prog w .any base 44 v)
    (h : DataW.Trod enc Try.prog w 0 (fun _ => true) true 44 v d p) : ∃ a n c S Z, v = .slice a n c ∧ StrsIn w a n S Z ∧ n ≤ c ∧ c ≤ maxLen := by
  obtain ⟨a0, len, cap, rfl⟩ := okWide_slice Try.underlying44 hk
  obtain ⟨fuel, hf⟩ := h
  have ce : Try.prog.cellsOf 9 = 1 := by kernel_rfl
  rcases Go.Deep.open_slice Try.underlying44 hf with ⟨hcs, _⟩ | ⟨x, l, c, m, q, D, Pl, hcs, _, hl, hm, hmm, _, hc⟩
  · have hcs : [Value.slice a0 len cap] = [Value.slice none 0 0] := hcs
    simp only [List.cons.injEq, Value.slice.injEq, and_true] at hcs
    obtain ⟨rfl, rfl, rfl⟩ := hcs
    exact ⟨_, _, _, fun _ _ => 0#8, fun _ => 0, rfl, ⟨Nat.zero_le _, .inl rfl⟩, Nat.le_refl _, Nat.zero_le _⟩
  · have hcs : [Value.slice a0 len cap] = [Value.slice (some x) l c] := hcs
    simp only [List.cons.injEq, Value.slice.injEq, and_true] at hcs
    obtain ⟨rfl, rfl, rfl⟩ := hcs
    rw [if_pos rfl] at hmm
    subst hmm
    have e : ∀ i, i < len → ∃ t : (Nat → BitVec 8) × Nat, w.cell? (x.add i) = some (.string (strOf t.1 t.2)) := fun i hi => by
      obtain ⟨cs', h1, h2⟩ := hc i (by omega)
      rw [ce] at h1
      obtain ⟨_, hlen, hcell⟩ := World.cells?_some h1
      match cs', hlen with
      | [v1], _ =>
        have e1 := hcell 0 (by omega)
        rw [Go.Deep.add_add] at e1
        obtain ⟨s, hs0, _, _⟩ := DataW.trod_string (show Try.prog.underlying 9 = some .string from by kernel_rfl) h2
        simp only [List.cons.injEq, and_true] at hs0
        subst hs0
        obtain ⟨g, hg⟩ := str_as s
        exact ⟨(g, s.size), by rw [← hg]; simpa using e1⟩
    obtain ⟨G, hG⟩ := Go.Deep.choose_lt e
    refine ⟨_, _, _, fun i => (G i).1, fun i => (G i).2, rfl, ⟨Nat.le_trans hl hm, ?_⟩, hl, hm⟩
    by_cases h0 : len = 0
    · exact .inl h0
    · obtain ⟨b, off, spot⟩ := x
      have hz := hG 0 (by omega)
      have hspot : spot = none := by simpa [Addr.add] using World.cell?_spot hz
      subst hspot
      refine .inr ⟨b, off, rfl, ?_, fun i hi => ?_⟩
      · have := World.block_lt_of_cell? w _ hz
        simpa [Addr.add] using this
      · have h1 := hG i hi
        rw [Go.WideShapes.add_plain] at h1
        exact h1
/- Rows put together. -/
theorem catTo_at (L : Nat → Nat) (F : Nat → Nat → BitVec 8) : ∀ (n k i : Nat), k < n → i < L k → catTo L F n (lenTo L k + i) = F k i
  | 0, k, i, hk, _ => by omega
  | n + 1, k, i, hk, hi => by
    show joinb (catTo L F n) (lenTo L n) (F n) (lenTo L k + i) = _
    unfold joinb
    by_cases h : k = n
    · subst h
      rw [if_neg (by omega), show lenTo L k + i - lenTo L k = i by omega]
    · have h1 : lenTo L (k + 1) ≤ lenTo L n := lenTo_le L (show k + 1 ≤ n by omega)
      have h2 : lenTo L (k + 1) = lenTo L k + L k := rfl
      rw [if_pos (by omega)]
      exact catTo_at L F n k i (by omega) hi
/-- The messages: P k has Q k bytes. -/
def frL (Q : Nat → Nat) (k : Nat) : Nat := 2 + Q k
def frC (P : Nat → Nat → BitVec 8) (Q : Nat → Nat) (k : Nat) : Nat → BitVec 8 := frF (P k) (Q k)
theorem fr_cnt (P : Nat → Nat → BitVec 8) (Q : Nat → Nat) (N k : Nat) (hk : k < N) (hQ : Q k ≤ 65535) : cnt (fun i => catTo (frL Q) (frC P Q) N (lenTo (frL Q) k + i)) = Q k := by
  have e0 : catTo (frL Q) (frC P Q) N (lenTo (frL Q) k + 0) = hdF (Q k) 0 := catTo_at _ _ N k 0 hk (by unfold frL; omega)
  have e1 : catTo (frL Q) (frC P Q) N (lenTo (frL Q) k + 1) = hdF (Q k) 1 := (catTo_at _ _ N k 1 hk (by unfold frL; omega)).trans rfl
  unfold cnt
  simp only [e0, e1]
  show (BitVec.ofNat 8 (Q k / 256)).toNat * 256 + (BitVec.ofNat 8 (Q k)).toNat = Q k
  rw [BitVec.toNat_ofNat, BitVec.toNat_ofNat]
  omega
theorem fr_body (P : Nat → Nat → BitVec 8) (Q : Nat → Nat) (N k i : Nat) (hk : k < N) (hi : i < Q k) : catTo (frL Q) (frC P Q) N (lenTo (frL Q) k + (2 + i)) = P k i := by
  rw [catTo_at _ _ N k (2 + i) hk (by unfold frL; omega)]
  unfold frC frF joinb
  rw [if_neg (by omega), show 2 + i - 2 = i by omega]
/-- The reader: q messages were taken, p bytes were fed. -/
def RdM (B r : Nat) (P : Nat → Nat → BitVec 8) (Q : Nat → Nat) (N q p : Nat) (v : Value) (w : World) : Prop :=
  Rdr B r v false (p - lenTo (frL Q) q) (fun i => catTo (frL Q) (frC P Q) N (lenTo (frL Q) q + i)) w
theorem Rdr.congr {B r n : Nat} {v : Value} {over : Bool} {f g : Nat → BitVec 8} {w : World} (h : Rdr B r v over n f w) (hfg : ∀ i, i < n → f i = g i) : Rdr B r v over n g w := ⟨h.row, h.own.congr hfg, h.base, h.apart⟩
/-- What Next answers: the next message, if it is there. -/
theorem next_m {B r N q p : Nat} {P : Nat → Nat → BitVec 8} {Q : Nat → Nat} {v : Value} {w : World} (h : RdM B r P Q N q p v w) (hq : q ≤ N) (hp : lenTo (frL Q) q ≤ p) (hpN : p ≤ lenTo (frL Q) N) (hT : lenTo (frL Q) N ≤ 1048576) (hQ : ∀ k, k < N → 1 ≤ Q k ∧ Q k ≤ 65535) :
    Calls Try.prog 6 #[.pointer (some ⟨r, 0, none⟩)] w fun e w' =>
      (q < N ∧ lenTo (frL Q) (q + 1) ≤ p ∧ e = .returned (.tuple #[.string (strOf (P q) (Q q)), .bool true]) ∧ ∃ v', RdM B r P Q N (q + 1) p v' w' ∧ TurnR B r v v' w w') ∨
      ((q < N → p < lenTo (frL Q) (q + 1)) ∧ e = .returned (.tuple #[.string ⟨#[]⟩, .bool false]) ∧ ∃ v', RdM B r P Q N q p v' w' ∧ TurnR B r v v' w w') := by
  have h' : Rdr B r v false (p - lenTo (frL Q) q) (fun i => catTo (frL Q) (frC P Q) N (lenTo (frL Q) q + i)) w := h
  have e1 : lenTo (frL Q) (q + 1) = lenTo (frL Q) q + (2 + Q q) := rfl
  by_cases hqN : q < N
  · obtain ⟨hQ1, hQ2⟩ := hQ q hqN
    have hcnt := fr_cnt P Q N q hqN hQ2
    by_cases hfull : lenTo (frL Q) (q + 1) ≤ p
    · refine (next_ok B r _ v false _ w h' (by omega) (by rw [hcnt]; omega) (by rw [hcnt]; omega)).mono ?_
      rintro e w' ⟨rfl, v', h1, t⟩
      rw [hcnt] at h1 ⊢
      refine .inl ⟨hqN, hfull, ?_, v', ?_, t⟩
      · rw [(strOf_eq _ _ _).2 (fun i hi => fr_body P Q N q i hqN hi)]
      · have h2 := h1.congr (g := fun i => catTo (frL Q) (frC P Q) N (lenTo (frL Q) (q + 1) + i)) (fun i _ => by show catTo (frL Q) (frC P Q) N (lenTo (frL Q) q + (2 + Q q + i)) = catTo (frL Q) (frC P Q) N (lenTo (frL Q) (q + 1) + i); rw [e1]; congr 1; omega)
        rw [show p - lenTo (frL Q) q - (2 + Q q) = p - lenTo (frL Q) (q + 1) by omega] at h2
        exact h2
    · by_cases h2 : p - lenTo (frL Q) q < 2
      · refine (next_few B r _ v false _ w h' h2).mono ?_
        rintro e w' ⟨rfl, rfl⟩
        exact .inr ⟨fun _ => by omega, rfl, v, h, TurnR.refl _ _ _ _⟩
      · refine (next_none B r _ v false _ w h' (by omega) (by omega) (.inr (by rw [hcnt]; omega))).mono ?_
        rintro e w' ⟨rfl, h1, t⟩
        exact .inr ⟨fun _ => by omega, rfl, v, h1, t⟩
  · obtain rfl : q = N := by omega
    refine (next_few B r _ v false _ w h' (by omega)).mono ?_
    rintro e w' ⟨rfl, rfl⟩
    exact .inr ⟨fun hh => by omega, rfl, v, h, TurnR.refl _ _ _ _⟩
/-- Feed of the next k bytes. -/
theorem feed_m {B r N q p k : Nat} {P : Nat → Nat → BitVec 8} {Q : Nat → Nat} {v : Value} {w : World} (h : RdM B r P Q N q p v w) (hp : lenTo (frL Q) q ≤ p) (hpN : p + k ≤ lenTo (frL Q) N) (hT : lenTo (frL Q) N ≤ 1048576) :
    Calls Try.prog 8 #[.pointer (some ⟨r, 0, none⟩), .string (strOf (fun i => catTo (frL Q) (frC P Q) N (p + i)) k)] w fun e w' => e = .returned (.int .i64 0) ∧ ∃ v', RdM B r P Q N q (p + k) v' w' ∧ TurnR B r v v' w w' := by
  refine (feed_ok B r _ k v _ _ w h (by omega)).mono ?_
  rintro e w' ⟨rfl, v', h1, t⟩
  have h2 := h1.congr (g := fun i => catTo (frL Q) (frC P Q) N (lenTo (frL Q) q + i)) (fun i hi => by
    unfold joinb
    by_cases hlt : i < p - lenTo (frL Q) q
    · rw [if_pos hlt]
    · rw [if_neg hlt]
      show catTo (frL Q) (frC P Q) N (p + (i - (p - lenTo (frL Q) q))) = catTo (frL Q) (frC P Q) N (lenTo (frL Q) q + i)
      congr 1
      omega)
  rw [show p - lenTo (frL Q) q + k = p + k - lenTo (frL Q) q by omega] at h2
  exact ⟨rfl, v', h2, t⟩
end Go.Proofs.Ytgblfljbfaaipaa
