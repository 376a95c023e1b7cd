/-
  GuardReads: the program's Open and the document's, one behind the other; keys, bytes, a place and a number that came in.
-/
import Derived.Test.YtjbpjoondmcnlabDoorGoD
import Derived.Test.YtjbpjoondmcnlabDoorGsJ
import Derived.Test.YtjbpjoondmcnlabDoorMg07
namespace Go.Proofs.YtjbpjoondmcnlabDoor
open Go Go.RowKit Go.BigFrame Go.ChangeShapes Go.WideShapes
set_option linter.unusedSimpArgs false
set_option linter.unusedVariables false
set_option maxRecDepth 100000
def OpensTo (K I M : ByteArray) (f : Nat → BitVec 8) (L : Nat) (P E : Int) (T1 : ByteArray) (N : Int) (T2 : ByteArray) (r : Int) : Prop :=
  ∀ (w' : World) (a : Option Addr) (c : Nat), L ≤ c → c ≤ maxLen → BytesIn w' a L f →
    Calls Tryd.prog 14 #[.agg (kysC K I M), .slice a L c, .int .i64 P, .int .i64 E] w' fun e w2 => ∃ g1 m1 c1 h1 g2 m2 c2 h2, e = .returned (.tuple #[.slice g1 m1 c1, .int .i64 N, .slice g2 m2 c2, .int .i64 r]) ∧ BytesIn w2 g1 m1 h1 ∧ T1 = strOf h1 m1 ∧ BytesIn w2 g2 m2 h2 ∧ T2 = strOf h2 m2 ∧ Below w'.heap.size w' w2
theorem in_noneG (w : World) (h : Nat → BitVec 8) : BytesIn w none 0 h := ⟨by unfold maxLen; omega, .inl rfl⟩
theorem opensTo_bad (K I M : ByteArray) (f : Nat → BitVec 8) (L : Nat) (P E r : Int)
    (OB : ∀ (w' : World) (a : Option Addr) (c : Nat), Calls Tryd.prog 14 #[.agg (kysC K I M), .slice a L c, .int .i64 P, .int .i64 E] w' fun e w2 => e = .returned (.tuple #[.slice none 0 0, .int .i64 0, .slice none 0 0, .int .i64 r]) ∧ Below w'.heap.size w' w2) :
    OpensTo K I M f L P E ⟨#[]⟩ 0 ⟨#[]⟩ r := by
  intro w' a c _ _ _
  refine (OB w' a c).mono ?_
  rintro e w2 ⟨rfl, hb⟩
  exact ⟨none, 0, 0, fun _ => 0#8, none, 0, 0, fun _ => 0#8, rfl, in_noneG _ _, rfl, in_noneG _ _, rfl, hb⟩
theorem opens_both (K I M : ByteArray) (f : Nat → BitVec 8) (L : Nat) (hL : L ≤ 4000) (P E : Int) (hP : P ≤ 9223372036854775807) (w : World) :
    Calls Tryd.prog 13 #[.agg (kysC K I M), .string (strOf f L), .int .i64 P, .int .i64 E] w fun e w1 => ∃ (T1 : ByteArray) (N : Int) (T2 : ByteArray) (r : Int), e = .returned (.tuple #[.string T1, .int .i64 N, .string T2, .int .i64 r]) ∧ Below w.heap.size w w1 ∧ OpensTo K I M f L P E T1 N T2 r := by
  by_cases hbad : badOpen K.size I.size M.size P E
  · refine (docOpen_arg K I M _ _ _ rfl rfl rfl P E (strOf f L) w hbad).mono ?_
    rintro e w1 ⟨rfl, hb⟩
    exact ⟨_, _, _, _, rfl, hb, opensTo_bad K I M f L P E 1 (fun w' a c => gopen_arg K I M _ _ _ rfl rfl rfl P E a L c w' hbad)⟩
  · unfold badOpen at hbad
    have h0 : 0 ≤ E ∧ E ≤ 4611686018427387903 := Decidable.byContradiction fun h => hbad (.inr (.inl h))
    have hk : K.size = 16 ∧ I.size = 12 ∧ M.size = 16 := Decidable.byContradiction fun h => hbad (.inr (.inr h))
    have hP1 : 1 ≤ P := by omega
    by_cases ht : (L : Int) - P < 20
    · refine (docOpen_tail K I M hk.1 hk.2.1 hk.2.2 P E h0.1 h0.2 hP1 hP (strOf f L) L (strOf_size _ _) hL ht w).mono ?_
      rintro e w1 ⟨rfl, hb⟩
      exact ⟨_, _, _, _, rfl, hb, opensTo_bad K I M f L P E 3 (fun w' a c => gopen_tail K I M hk.1 hk.2.1 hk.2.2 P E h0.1 h0.2 hP1 hP a L c hL ht w')⟩
    · obtain ⟨p, rfl⟩ : ∃ p : Nat, P = (p : Int) := ⟨P.toNat, by omega⟩
      obtain ⟨k, rfl⟩ := str_of K 16 hk.1
      obtain ⟨iv, rfl⟩ := str_of I 12 hk.2.1
      obtain ⟨mk, rfl⟩ := str_of M 16 hk.2.2
      obtain ⟨s, hs⟩ : ∃ s, opnS mk f p = s := ⟨_, rfl⟩
      have hp : 1 ≤ p := by omega
      have hpL : p + 20 ≤ L := by omega
      refine (docOpen_any k iv mk f E h0.1 h0.2 p L s hp hpL hL hs w).mono ?_
      rintro e w1 ⟨rfl, hb⟩
      cases hO : opnOk k iv mk f E p L s with
      | true =>
        refine ⟨_, _, _, _, rfl, hb, ?_⟩
        intro w' a c hc hcm hf
        obtain ⟨_, h | ⟨b, o, rfl, _, _⟩⟩ := id hf
        · omega
        refine (gopen_any k iv mk f E h0.1 h0.2 p L s hp hpL hL hs b o c hc hcm w' hf).mono ?_
        rintro e w2 ⟨hb2, ⟨_, g, ch, r, rfl, _, _, i1, i2⟩ | ⟨hx, _⟩⟩
        · exact ⟨_, _, _, _, _, _, _, _, rfl, i1, rfl, i2, rfl, hb2⟩
        · rw [hO] at hx; cases hx
      | false =>
        refine ⟨_, _, _, _, rfl, hb, ?_⟩
        intro w' a c hc hcm hf
        obtain ⟨_, h | ⟨b, o, rfl, _, _⟩⟩ := id hf
        · omega
        refine (gopen_any k iv mk f E h0.1 h0.2 p L s hp hpL hL hs b o c hc hcm w' hf).mono ?_
        rintro e w2 ⟨hb2, ⟨hx, _⟩ | ⟨_, rfl⟩⟩
        · rw [hO] at hx; cases hx
        · exact ⟨none, 0, 0, fun _ => 0#8, none, 0, 0, fun _ => 0#8, rfl, in_noneG _ _, rfl, in_noneG _ _, rfl, hb2⟩
def slC (K I M : ByteArray) (a : Option Addr) (n c : Nat) (P E : Int) : Array Value := #[.string K, .string I, .string M, .slice a n c, .int .i64 P, .int .i64 E]
theorem sl_cells {w : World} {b : Nat} {T : TypeId} {K I M : ByteArray} {a : Option Addr} {n c : Nat} {P E : Int} (h : w.heap[b]? = some (.cells (slC K I M a n c P E) T (0, 0))) :
    w.cell? ⟨b, 0, none⟩ = some (.string K) ∧ w.cell? ⟨b, 1, none⟩ = some (.string I) ∧ w.cell? ⟨b, 2, none⟩ = some (.string M) ∧ w.cell? ⟨b, 3, none⟩ = some (.slice a n c) ∧ w.cell? ⟨b, 4, none⟩ = some (.int .i64 P) ∧ w.cell? ⟨b, 5, none⟩ = some (.int .i64 E) := by
  refine ⟨?_, ?_, ?_, ?_, ?_, ?_⟩ <;> rw [cell_of_row _ _ _ _ _ _ h] <;> rfl
theorem open_sealed {H : Type} {enc : TypeId × Value → H} {w : World} {base : Nat} {v : Value} {d : DataW H} {p : List MemPlace} (hk : Value.okWide Tryd.prog w .any base 38 v)
    (h : DataW.Trod enc Tryd.prog w 0 (fun _ => true) true 38 v d p) :
    ∃ K I M a n c f P E, v = .agg (slC K I M a n c P E) ∧ BytesIn w a n f ∧ n ≤ c ∧ c ≤ maxLen ∧ P ≤ 9223372036854775807 := by
  obtain ⟨cs, rfl, hs⟩ := okWide_agg (by kernel_rfl) hk
  have hs9 : cs.size = 6 := hs.trans (by kernel_rfl)
  obtain ⟨fuel, hf⟩ := h
  obtain ⟨xs, n, _, hd, _, hl, hx⟩ := DataW.trod_struct Tryd.underlying38 hf
  match xs, hl with
  | [y0, y1, y2, y3], _ =>
    match cs, hs9 with
    | ⟨[v0, v1, v2, v3, v4, v5]⟩, _ =>
      have g0 : DataW.trod enc Tryd.prog w 0 (fun _ => true) true n 23 [v0, v1, v2] = some y0 := hx 0 _ rfl
      have g1 : DataW.trod enc Tryd.prog w 0 (fun _ => true) true n 31 [v3] = some y1 := hx 1 _ rfl
      have g2 : DataW.trod enc Tryd.prog w 0 (fun _ => true) true n 3 [v4] = some y2 := hx 2 _ rfl
      have g3 : DataW.trod enc Tryd.prog w 0 (fun _ => true) true n 3 [v5] = some y3 := hx 3 _ rfl
      obtain ⟨xs2, n2, _, hd2, _, hl2, hx2⟩ := DataW.trod_struct Tryd.underlying23 g0
      match xs2, hl2 with
      | [z0, z1, z2], _ =>
        have k0 : DataW.trod enc Tryd.prog w 0 (fun _ => true) true n2 9 [v0] = some z0 := hx2 0 _ rfl
        have k1 : DataW.trod enc Tryd.prog w 0 (fun _ => true) true n2 9 [v1] = some z1 := hx2 1 _ rfl
        have k2 : DataW.trod enc Tryd.prog w 0 (fun _ => true) true n2 9 [v2] = some z2 := hx2 2 _ rfl
        have ui : Tryd.prog.underlying 3 = some (.int .i64) := by kernel_rfl
        have us : Tryd.prog.underlying 9 = some .string := by kernel_rfl
        obtain ⟨K, e0, _, _⟩ := DataW.trod_string us k0
        obtain ⟨I, e1, _, _⟩ := DataW.trod_string us k1
        obtain ⟨M, e2, _, _⟩ := DataW.trod_string us k2
        obtain ⟨a, len, cap, f, e3, hb, hlc, hcm, _⟩ := open_bytes_at g1
        obtain ⟨P, e4, q1, q2⟩ := DataW.trod_int ui g2
        obtain ⟨E, e5, _, _⟩ := DataW.trod_int ui g3
        simp only [List.cons.injEq, and_true] at e0 e1 e2 e4 e5
        subst e0 e1 e2 e3 e4 e5
        have hb2 : -9223372036854775808 ≤ P ∧ P ≤ 9223372036854775807 := by simpa [Lit.wf, IntKind.min, IntKind.max, IntKind.signed, IntKind.bits] using q2
        exact ⟨K, I, M, a, len, cap, f, P, E, rfl, hb, hlc, hcm, hb2.2⟩
end Go.Proofs.YtjbpjoondmcnlabDoor
