/-
  A LETTER THAT CAME IN, by value: a key, a nonce, bytes beside, bytes.
-/
import Derived.Test.YtoocglckhphepaaGcmK
import Derived.Test.YtoocglckhphepaaOpenB
import Derived.Test.YtoocglckhphepaaZeros
import Derived.SizedLaws
namespace Go.Proofs.Ytoocglckhphepaa
open Go Go.RowKit Go.ChangeShapes Go.WideShapes
set_option maxRecDepth 100000
def letterC (key : Nat → BitVec 8) (s1 s2 s3 : Value) : Array Value := b16 key ++ #[s1, s2, s3]
theorem letter_key (key : Nat → BitVec 8) (s1 s2 s3 : Value) (i : Nat) (h : i < 16) : (letterC key s1 s2 s3)[i]? = some (.int .u8 (n8 (key i))) := by
  unfold letterC
  rw [Array.getElem?_append_left (by simp [b16]; omega)]
  exact b16_get key i h
theorem letter_1 (key : Nat → BitVec 8) (s1 s2 s3 : Value) : (letterC key s1 s2 s3)[16]? = some s1 := by kernel_rfl
theorem letter_2 (key : Nat → BitVec 8) (s1 s2 s3 : Value) : (letterC key s1 s2 s3)[17]? = some s2 := by kernel_rfl
theorem letter_3 (key : Nat → BitVec 8) (s1 s2 s3 : Value) : (letterC key s1 s2 s3)[18]? = some s3 := by kernel_rfl
theorem open_letter {H : Type} {enc : TypeId × Value → H} {w : World} {base : Nat} {v : Value} {d : DataW H} {p : List MemPlace} (hk : Value.okWide Try.prog w .any base 29 v)
    (h : DataW.Trod enc Try.prog w 0 (fun _ => true) true 29 v d p) (hz : ∀ n ∈ DataW.weights Try.prog 29 d, n ≤ reachBytes) :
    ∃ key a1 n1 c1 f1 a2 n2 c2 f2 a3 n3 c3 f3, v = .agg (letterC key (.slice a1 n1 c1) (.slice a2 n2 c2) (.slice a3 n3 c3)) ∧ (BytesIn w a1 n1 f1 ∧ n1 ≤ c1 ∧ c1 ≤ maxLen ∧ n1 ≤ 140737488355328) ∧ (BytesIn w a2 n2 f2 ∧ n2 ≤ c2 ∧ c2 ≤ maxLen) ∧ (BytesIn w a3 n3 f3 ∧ n3 ≤ c3 ∧ c3 ≤ maxLen) := by
  obtain ⟨cs, rfl, hs⟩ := okWide_agg (by kernel_rfl) hk
  have hs19 : cs.size = 19 := hs.trans (by kernel_rfl)
  obtain ⟨fuel, hf⟩ := h
  obtain ⟨xs, n, _, hd, _, hl, hx⟩ := DataW.trod_struct Try.underlying29 hf
  match xs, hl with
  | [y0, y1, y2, y3], _ =>
    have g0 : DataW.trod enc Try.prog w 0 (fun _ => true) true n 22 (((Value.agg cs).cells.toList.drop 0).take 16) = some y0 := hx 0 _ rfl
    have g1 : DataW.trod enc Try.prog w 0 (fun _ => true) true n 25 (((Value.agg cs).cells.toList.drop 16).take 1) = some y1 := hx 1 _ rfl
    have g2 : DataW.trod enc Try.prog w 0 (fun _ => true) true n 25 (((Value.agg cs).cells.toList.drop 17).take 1) = some y2 := hx 2 _ rfl
    have g3 : DataW.trod enc Try.prog w 0 (fun _ => true) true n 25 (((Value.agg cs).cells.toList.drop 18).take 1) = some y3 := hx 3 _ rfl
    obtain rfl : d = .agg [y0.1, y1.1, y2.1, y3.1] := by
      have := congrArg Prod.fst hd
      simpa using this
    have hw : ∀ n ∈ DataW.weights Try.prog 25 y1.1, n ≤ reachBytes := fun n hn => hz n (by
      rw [DataW.weights, Try.underlying29]
      exact DataW.weights_mem_each (j := 1) (t := 25) (d := y1.1) rfl rfl n hn)
    obtain ⟨key, hkey⟩ := trod_bytes (t := 22) (e := 5) (n := 16) (by kernel_rfl) (by kernel_rfl) (by kernel_rfl) g0
    have one : ∀ o, o < 19 → ∃ c, cs[o]? = some c ∧ ((Value.agg cs).cells.toList.drop o).take 1 = [c] := fun o ho => by
      have ho' : o < cs.size := by omega
      refine ⟨cs[o], by simp [ho'], ?_⟩
      simp [Value.cells, List.take_one, ho']
    obtain ⟨v1, e1, k1⟩ := one 16 (by omega)
    obtain ⟨v2, e2, k2⟩ := one 17 (by omega)
    obtain ⟨v3, e3, k3⟩ := one 18 (by omega)
    rw [k1] at g1
    rw [k2] at g2
    rw [k3] at g3
    obtain ⟨a1, n1, c1, f1, rfl, hb1, hl1, hm1, hR⟩ := open_bytes_at g1
    obtain ⟨a2, n2, c2, f2, rfl, hb2, hl2, hm2, _⟩ := open_bytes_at g2
    obtain ⟨a3, n3, c3, f3, rfl, hb3, hl3, hm3, _⟩ := open_bytes_at g3
    refine ⟨key, a1, n1, c1, f1, a2, n2, c2, f2, a3, n3, c3, f3, ?_, ⟨hb1, hl1, hm1, Nat.le_trans (hR reachBytes hw) (by decide)⟩, ⟨hb2, hl2, hm2⟩, ⟨hb3, hl3, hm3⟩⟩
    congr 1
    apply Array.ext_getElem?
    intro i
    by_cases h1 : i < 16
    · rw [letter_key _ _ _ _ i h1, ← hkey i h1]
      simp [Value.cells, h1]
    by_cases h2 : i = 16
    · subst h2; rw [e1, letter_1]
    by_cases h3 : i = 17
    · subst h3; rw [e2, letter_2]
    by_cases h4 : i = 18
    · subst h4; rw [e3, letter_3]
    · rw [Array.getElem?_eq_none (by omega), Array.getElem?_eq_none (by simp [letterC, b16]; omega)]
end Go.Proofs.Ytoocglckhphepaa
