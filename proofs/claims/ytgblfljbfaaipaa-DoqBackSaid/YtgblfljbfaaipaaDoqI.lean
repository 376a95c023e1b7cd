/-
  TEXTS THAT THE CALL PUTS TOGETHER ITSELF ([]string).
-/
import Derived.Test.YtgblfljbfaaipaaDoqH
import Derived.Laws.AppendOwn
namespace Go.Proofs.Ytgblfljbfaaipaa
open Go Go.RowKit Go.ChangeShapes Go.WideShapes Go.BigFrame
set_option linter.unusedSimpArgs false
set_option linter.unusedVariables false
theorem under_strs : Try.prog.underlying 44 = some (.slice 9) := by kernel_rfl
theorem info_strs : ∃ i0, Try.prog.info? 9 = some i0 ∧ i0.zero = some (.string ⟨#[]⟩) ∧ i0.size = 1 ∧ i0.bytes = 16 := by
  have h : (Try.prog.info? 9).map (fun i => (i.zero, i.size, i.bytes)) = some (some (.string ⟨#[]⟩), 1, 16) := by kernel_rfl
  cases hq : Try.prog.info? 9 with
  | none => rw [hq] at h; cases h
  | some i =>
    rw [hq] at h
    simp only [Option.map_some, Option.some.injEq, Prod.mk.injEq] at h
    exact ⟨i, rfl, h.1, h.2.1, h.2.2⟩
theorem wpList_append_str {ops : Array Oper} {rest : List Oper} {o : Oper} {a : Act} {w : World} {Q : Exit → Act → World → Prop} (hgd : o.guard = none) (s x : Operand)
    (ho : o.op = .call { callee := .builtin .append, args := #[s, x], argTypes := #[44, 44] })
    {B k g : Nat} {v : Value} {cs : List Value} {S : ByteArray} (hs : a.eval s = v) (hx : a.eval x = .slice (some ⟨g, 0, none⟩) 1 1) (hown : w.ownsRow B 9 1 v k cs) (hg : w.cell? ⟨g, 0, none⟩ = some (.string S)) (hk : k ≤ 1000) (hB : B ≤ w.heap.size)
    (h : ∀ v' w', w'.ownsRow B 9 1 v' (k + 1) (cs ++ [.string S]) → Below B w w' → wpList Try.prog ops Q rest (a.put o.dst v') w') : wpList Try.prog ops Q (o :: rest) a w := by
  obtain ⟨i0, hi, hz, hsz, hby⟩ := info_strs
  refine wpList_append_own (P := Try.prog) w hgd s x 44 ho B 9 i0 (.string ⟨#[]⟩) 1 16 under_strs hi hz hsz hby rfl (by omega) v k cs hs hown ⟨g, 0, none⟩ 1 1 [.string S] hx rfl ?_ ?_ (by unfold maxLen; omega) (by omega) hB ?_
  · intro j u hj
    match j, hj with
    | 0, hj => injection hj with hj; subst hj; simpa [Addr.add] using hg
    | j + 1, hj => cases hj
  · intro u hu
    obtain rfl : u = .string S := by simpa using hu
    rfl
  · intro v' w' h1 h2 _
    exact h v' w' h1 ((Below.refl B w).grown h2 hB (fun j hj => (hown.lt j hj).1))
theorem strs_at {w : World} {B k i : Nat} {v : Value} {f : Nat → ByteArray} (h : w.ownsRow B 9 1 v k ((List.range k).map fun i => .string (f i))) (hi : i < k) : ∃ g cap, v = .slice (some ⟨g, 0, none⟩) k cap ∧ w.cell? ⟨g, i, none⟩ = some (.string (f i)) ∧ g < w.heap.size := by
  rcases h.2 with ⟨_, h0⟩ | ⟨g, cap, cur, rfl, hB, hg, hnc, hcm, hcs, ht⟩
  · omega
  · refine ⟨g, cap, rfl, ?_, lt_row hg⟩
    rw [cell_of_row _ _ _ _ _ _ hg]
    have := congrArg (·[i]?) ht
    simp only [Nat.mul_one, List.getElem?_take, hi, if_true, List.getElem?_map, List.getElem?_range hi, Option.map_some] at this
    rw [Array.getElem?_toList] at this
    exact this
theorem strs_snoc (f : Nat → ByteArray) (k : Nat) : ((List.range k).map fun i => Value.string (f i)) ++ [.string (f k)] = (List.range (k + 1)).map fun i => Value.string (f i) := by
  rw [List.range_succ, List.map_append]; rfl
theorem strs_slice {w : World} {B k : Nat} {v : Value} {cs : List Value} (h : w.ownsRow B 9 1 v k cs) : ∃ a cap, v = .slice a k cap := by
  rcases h.2 with ⟨rfl, rfl⟩ | ⟨g, cap, cur, rfl, _⟩
  · exact ⟨_, _, rfl⟩
  · exact ⟨_, _, rfl⟩
theorem strs_kept {w w' : World} {B k : Nat} {v : Value} {cs : List Value} (h : w.ownsRow B 9 1 v k cs) (hk : ∀ g, v.ownBlock = some g → g < w.heap.size → w'.heap[g]? = w.heap[g]?) : w'.ownsRow B 9 1 v k cs := by
  refine ⟨h.1, ?_⟩
  rcases h.2 with h1 | ⟨g, cap, cur, rfl, hB, hg, r⟩
  · exact .inl h1
  · exact .inr ⟨g, cap, cur, rfl, hB, (hk g rfl (lt_row hg)).trans hg, r⟩
def szV : Value → Nat
  | .string S => S.size
  | _ => 0
/-- The rest of a text. -/
theorem str_rest (f : Nat → BitVec 8) (n k : Nat) (K : Int) (hK : K.toNat = k) (hk : k ≤ n) : (strOf f n).extract K.toNat n = strOf (fun i => f (k + i)) (n - k) := by
  rw [hK]
  exact str_cut f k n n hk (Nat.le_refl _)
/-- A message: an 'm' and the first bytes of a text. -/
def mF (S : Nat → Nat → BitVec 8) (k : Nat) : Nat → BitVec 8 := joinb (fun _ => 109#8) 1 (S k)
def mQ (Z : Nat → Nat) (k : Nat) : Nat := 1 + min (Z k) 900
theorem m_str (S : Nat → Nat → BitVec 8) (Z : Nat → Nat) (k : Nat) : (⟨#[109]⟩ : ByteArray) ++ strOf (S k) (min (Z k) 900) = strOf (mF S k) (mQ Z k) := by
  have h : (⟨#[109]⟩ : ByteArray) = strOf (fun _ => 109#8) 1 := rfl
  rw [h]
  exact str_join _ _ _ 1 _ (fun i hi => by unfold mF joinb; rw [if_pos hi]) (fun i hi => by unfold mF joinb; rw [if_neg (by omega), show 1 + i - 1 = i by omega])
theorem lenTo_bound (L : Nat → Nat) (M : Nat) (h : ∀ k, L k ≤ M) : ∀ n, lenTo L n ≤ n * M
  | 0 => Nat.zero_le _
  | n + 1 => by
    have := lenTo_bound L M h n
    have := h n
    show lenTo L n + L n ≤ (n + 1) * M
    rw [Nat.add_mul, Nat.one_mul]
    omega
theorem m_len (Z : Nat → Nat) (n : Nat) (hn : n ≤ 20) : lenTo (frL (mQ Z)) n ≤ 18060 := by
  have := lenTo_bound (frL (mQ Z)) 903 (fun k => by unfold frL mQ; omega) n
  omega
/-- Where the law stands between two pieces: p bytes were fed, q messages have come. -/
structure Mid (B r : Nat) (S : Nat → Nat → BitVec 8) (Z : Nat → Nat) (N q p : Nat) (v want : Value) (w0 w : World) : Prop where
  rd : RdM B r (mF S) (mQ Z) N q p v w
  own : w.ownsRow B 9 1 want N ((List.range N).map fun j => .string (strOf (mF S j) (mQ Z j)))
  aside : Aside want r v w
  below : Below B w0 w
theorem Mid.step {B r N q p q' p' : Nat} {S : Nat → Nat → BitVec 8} {Z : Nat → Nat} {v v' want : Value} {w0 w w' : World} (h : Mid B r S Z N q p v want w0 w) (h1 : RdM B r (mF S) (mQ Z) N q' p' v' w') (t : TurnR B r v v' w w') : Mid B r S Z N q' p' v' want w0 w' :=
  ⟨h1, strs_kept h.own (fun g hg hl => t.block g hl (h.aside g hg).2.1 (h.aside g hg).2.2), h.aside.turn t, h.below.trans t.below⟩
theorem mid_new {B N : Nat} {S : Nat → Nat → BitVec 8} {Z : Nat → Nat} {want : Value} {w0 w : World} (ho : w.ownsRow B 9 1 want N ((List.range N).map fun j => .string (strOf (mF S j) (mQ Z j)))) (hb : Below B w0 w) (hB : B ≤ w.heap.size) :
    Mid B w.heap.size S Z N 0 0 (.slice none 0 0) want w0 (w.alloc (.cells (rdC (.slice none 0 0) false) RT)) := by
  have b1 : Below w.heap.size w (w.alloc (.cells (rdC (.slice none 0 0) false) RT)) := (Below.refl _ _).alloc (Nat.le_refl _) _
  refine ⟨Rdr.made B _ w hB, strs_kept ho (fun g _ hg => b1.block g hg), fun k hk => ?_, hb.alloc hB _⟩
  have := (ho.lt k hk).2
  exact ⟨by simp; omega, by omega, fun h => by cases h⟩
theorem mQ_ok (Z : Nat → Nat) (k : Nat) : 1 ≤ mQ Z k ∧ mQ Z k ≤ 65535 := by unfold mQ; omega
theorem mid_next {B r N q p : Nat} {S : Nat → Nat → BitVec 8} {Z : Nat → Nat} {v want : Value} {w0 w : World} (h : Mid B r S Z N q p v want w0 w) (hN : N ≤ 20) (hq : q ≤ N) (hp : lenTo (frL (mQ Z)) q ≤ p) (hpN : p ≤ lenTo (frL (mQ Z)) N) :
    Calls Try.prog 6 #[.pointer (some ⟨r, 0, none⟩)] w fun e w' =>
      (q < N ∧ lenTo (frL (mQ Z)) (q + 1) ≤ p ∧ e = .returned (.tuple #[.string (strOf (mF S q) (mQ Z q)), .bool true]) ∧ ∃ v', Mid B r S Z N (q + 1) p v' want w0 w') ∨
      ((q < N → p < lenTo (frL (mQ Z)) (q + 1)) ∧ e = .returned (.tuple #[.string ⟨#[]⟩, .bool false]) ∧ ∃ v', Mid B r S Z N q p v' want w0 w') := by
  refine (next_m h.rd hq hp hpN (Nat.le_trans (m_len Z N hN) (by omega)) (fun k _ => mQ_ok Z k)).mono ?_
  rintro e w' (⟨h1, h2, he, v', h3, t⟩ | ⟨h1, he, v', h3, t⟩)
  · exact .inl ⟨h1, h2, he, v', h.step h3 t⟩
  · exact .inr ⟨h1, he, v', h.step h3 t⟩
/-- What Next said: a message or nothing. -/
def Heard (B r : Nat) (S : Nat → Nat → BitVec 8) (Z : Nat → Nat) (N q p : Nat) (s : ByteArray) (o : Bool) (want : Value) (w0 w : World) : Prop :=
  ∃ v, (o = true ∧ q < N ∧ lenTo (frL (mQ Z)) (q + 1) ≤ p ∧ s = strOf (mF S q) (mQ Z q) ∧ Mid B r S Z N (q + 1) p v want w0 w) ∨ (o = false ∧ (q < N → p < lenTo (frL (mQ Z)) (q + 1)) ∧ Mid B r S Z N q p v want w0 w)
theorem mid_heard {B r N q p : Nat} {S : Nat → Nat → BitVec 8} {Z : Nat → Nat} {v want : Value} {w0 w : World} (h : Mid B r S Z N q p v want w0 w) (hN : N ≤ 20) (hq : q ≤ N) (hp : lenTo (frL (mQ Z)) q ≤ p) (hpN : p ≤ lenTo (frL (mQ Z)) N) :
    Calls Try.prog 6 #[.pointer (some ⟨r, 0, none⟩)] w fun e w' => ∃ s o, e = .returned (.tuple #[.string s, .bool o]) ∧ Heard B r S Z N q p s o want w0 w' := by
  refine (mid_next h hN hq hp hpN).mono ?_
  rintro e w' (⟨h1, h2, he, v', h3⟩ | ⟨h1, he, v', h3⟩)
  · exact ⟨_, _, he, v', .inl ⟨rfl, h1, h2, rfl, h3⟩⟩
  · exact ⟨_, _, he, v', .inr ⟨rfl, h1, h3⟩⟩
theorem mid_feed {B r N q p k : Nat} {S : Nat → Nat → BitVec 8} {Z : Nat → Nat} {v want : Value} {w0 w : World} (h : Mid B r S Z N q p v want w0 w) (hN : N ≤ 20) (hp : lenTo (frL (mQ Z)) q ≤ p) (hpN : p + k ≤ lenTo (frL (mQ Z)) N) :
    Calls Try.prog 8 #[.pointer (some ⟨r, 0, none⟩), .string (strOf (fun i => catTo (frL (mQ Z)) (frC (mF S) (mQ Z)) N (p + i)) k)] w fun e w' => e = .returned (.int .i64 0) ∧ ∃ v', Mid B r S Z N q (p + k) v' want w0 w' := by
  refine (feed_m h.rd hp hpN (Nat.le_trans (m_len Z N hN) (by omega))).mono ?_
  rintro e w' ⟨rfl, v', h3, t⟩
  exact ⟨rfl, v', h.step h3 t⟩
theorem mid_end {B r N p : Nat} {S : Nat → Nat → BitVec 8} {Z : Nat → Nat} {v want : Value} {w0 w : World} (h : Mid B r S Z N N p v want w0 w) (hp : p = lenTo (frL (mQ Z)) N) :
    Calls Try.prog 9 #[.pointer (some ⟨r, 0, none⟩)] w fun e w' => e = .returned (.int .i64 0) ∧ Below B w0 w' ∧ Calls Try.prog 8 #[.pointer (some ⟨r, 0, none⟩), .string ⟨#[97]⟩] w' fun e w2 => e = .returned (.int .i64 10) ∧ w' = w2 := by
  subst hp
  refine (end_any _ _ _ _ _ _ w h.rd).mono ?_
  rintro e w' ⟨rfl, h1, t⟩
  refine ⟨by rw [if_neg (by omega)], h.below.trans t.below, ?_⟩
  have e97 : (⟨#[97]⟩ : ByteArray) = strOf (fun _ => 97#8) 1 := rfl
  rw [e97]
  exact feed_over _ _ _ 1 _ _ _ w' h1
end Go.Proofs.Ytgblfljbfaaipaa
