/-
  name: texts that the call puts together itself; the document's parts of a name.
-/
import Derived.Test.YtddpfbeclmgndaaDoorNmU
import Derived.Laws.AppendOwn
namespace Go.Proofs.YtddpfbeclmgndaaDoor
open Go Go.RowKit Go.ChangeShapes Go.WideShapes Go.BigFrame
set_option linter.unusedSimpArgs false
set_option linter.unusedVariables false
theorem under_strs : Tryd.prog.underlying 23 = some (.slice 9) := by kernel_rfl
theorem info_strs : ∃ i0, Tryd.prog.info? 9 = some i0 ∧ i0.zero = some (.string ⟨#[]⟩) ∧ i0.size = 1 ∧ i0.bytes = 16 := by
  have h : (Tryd.prog.info? 9).map (fun i => (i.zero, i.size, i.bytes)) = some (some (.string ⟨#[]⟩), 1, 16) := by kernel_rfl
  cases hq : Tryd.prog.info? 9 with
  | none => rw [hq] at h; cases h
  | some i =>
    rw [hq] at h
    simp only [Option.map_some, Option.some.injEq, Prod.mk.injEq] at h
    exact ⟨i, rfl, h.1, h.2.1, h.2.2⟩
theorem wpList_append_str {ops : Array Oper} {rest : List Oper} {o : Oper} {a : Act} {w : World} {Q : Exit → Act → World → Prop} (hgd : o.guard = none) (s x : Operand)
    (ho : o.op = .call { callee := .builtin .append, args := #[s, x], argTypes := #[23, 23] })
    {B k g : Nat} {v : Value} {cs : List Value} {S : ByteArray} (hs : a.eval s = v) (hx : a.eval x = .slice (some ⟨g, 0, none⟩) 1 1) (hown : w.ownsRow B 9 1 v k cs) (hg : w.cell? ⟨g, 0, none⟩ = some (.string S)) (hk : k ≤ 4000000) (hB : B ≤ w.heap.size)
    (h : ∀ v' w', w'.ownsRow B 9 1 v' (k + 1) (cs ++ [.string S]) → Below B w w' → wpList Tryd.prog ops Q rest (a.put o.dst v') w') : wpList Tryd.prog ops Q (o :: rest) a w := by
  obtain ⟨i0, hi, hz, hsz, hby⟩ := info_strs
  refine wpList_append_own (P := Tryd.prog) w hgd s x 23 ho B 9 i0 (.string ⟨#[]⟩) 1 16 under_strs hi hz hsz hby rfl (by omega) v k cs hs hown ⟨g, 0, none⟩ 1 1 [.string S] hx rfl ?_ ?_ (by unfold maxLen; omega) (by omega) hB ?_
  · intro j u hj
    match j, hj with
    | 0, hj => injection hj with hj; subst hj; simpa [Addr.add] using hg
    | j + 1, hj => cases hj
  · intro u hu
    obtain rfl : u = .string S := by simpa using hu
    rfl
  · intro v' w' h1 h2 _
    exact h v' w' h1 ((Below.refl B w).grown h2 hB (fun j hj => (hown.lt j hj).1))
/-- A row of one's own, from B on, of these texts. -/
def OwnT (B : Nat) (v : Value) (ps : List (List (BitVec 8))) (w : World) : Prop := w.ownsRow B 9 1 v ps.length (ps.map fun p => .string (sL p)) ∧ B ≤ w.heap.size
theorem OwnT.nil (B : Nat) (w : World) (hB : B ≤ w.heap.size) : OwnT B (.slice none 0 0) [] w := ⟨World.ownsRow_nil _ _ _ _, hB⟩
theorem OwnT.shape {B : Nat} {v : Value} {ps : List (List (BitVec 8))} {w : World} (h : OwnT B v ps w) : ∃ a cap, v = .slice a ps.length cap := by
  rcases h.1.2 with ⟨rfl, e⟩ | ⟨g, cap, cur, rfl, _⟩
  · exact ⟨none, 0, by rw [e]⟩
  · exact ⟨_, _, rfl⟩
theorem OwnT.later {B : Nat} {v : Value} {ps : List (List (BitVec 8))} {w w' : World} (h : OwnT B v ps w) (hb : Below w.heap.size w w') : OwnT B v ps w' := by
  refine ⟨⟨h.1.1, ?_⟩, Nat.le_trans h.2 hb.size⟩
  rcases h.1.2 with h1 | ⟨g, cap, cur, rfl, hB, hg, r⟩
  · exact .inl h1
  · exact .inr ⟨g, cap, cur, rfl, hB, (hb.block g (lt_row hg)).trans hg, r⟩
theorem OwnT.at {B : Nat} {v : Value} {ps : List (List (BitVec 8))} {w : World} (h : OwnT B v ps w) (k : Nat) (hk : k < ps.length) : ∃ g cap, v = .slice (some ⟨g, 0, none⟩) ps.length cap ∧ ps.length ≤ cap ∧ cap ≤ maxLen ∧ w.cell? ⟨g, k, none⟩ = some (.string (sL ps[k])) ∧ B ≤ g ∧ g < w.heap.size := by
  rcases h.1.2 with ⟨_, h0⟩ | ⟨g, cap, cur, rfl, hB, hg, hnc, hcm, hcs, ht⟩
  · omega
  · refine ⟨g, cap, rfl, hnc, hcm, ?_, hB, lt_row hg⟩
    rw [cell_of_row _ _ _ _ _ _ hg]
    have := congrArg (·[k]?) ht
    simp only [Nat.mul_one, List.getElem?_take, hk, if_true, List.getElem?_map, List.getElem?_eq_getElem hk, Option.map_some] at this
    rw [Array.getElem?_toList] at this
    exact this
theorem run_mid_s (L : List (BitVec 8)) (lo hi : Nat) (A B : Int) (hA : A = (lo : Int)) (hB : B = (hi : Int)) (h1 : lo ≤ hi) (h2 : hi ≤ L.length) (w : World) :
    (Instr.sliceAt 9 (.string (sL L)) (some (.int .i64 A)) (some (.int .i64 B)) none).run Tryd.prog w = .ok (.string (sL ((L.drop lo).take (hi - lo)))) w := by
  have h := run_str_mid (bx L) lo hi L.length A B hA hB h1 h2 w
  rw [sL_of, h]
  congr 2
  rw [of_sL]
  congr 1
  apply List.ext_getElem?
  intro i
  by_cases hi2 : i < hi - lo
  · simp [hi2, bx, List.getElem?_take, List.getElem?_drop, (by omega : lo + i < L.length)]
  · simp [hi2, List.getElem?_take]
theorem drop_bx (L : List (BitVec 8)) (i : Nat) (h : i < L.length) : L.drop i = bx L i :: L.drop (i + 1) := by
  rw [List.drop_eq_getElem_cons h]
  congr 1
  unfold bx
  rw [List.getD_eq_getElem?_getD, List.getElem?_eq_getElem h]
  rfl
theorem take_bx (L : List (BitVec 8)) (fr k : Nat) (h : fr + k < L.length) : (L.drop fr).take (k + 1) = (L.drop fr).take k ++ [bx L (fr + k)] := by
  rw [List.take_add_one, List.getElem?_drop, List.getElem?_eq_getElem h]
  congr 1
  unfold bx
  rw [List.getD_eq_getElem?_getD, List.getElem?_eq_getElem h]
  rfl
/-- How far the document has read: i bytes, the parts, the part that is under way. -/
structure DL (L : List (BitVec 8)) (i fr : Nat) (ps : List (List (BitVec 8))) (cur : List (BitVec 8)) : Prop where
  sp : splitDot L = ps ++ splitDot (cur ++ L.drop i)
  fc : fr + cur.length = i
  cu : cur = (L.drop fr).take cur.length
  ok : ∀ c ∈ cur, okc c = true
  pa : ∀ p ∈ ps, isPartB p = true
  pl : ps.length ≤ i
theorem DL.letter {L : List (BitVec 8)} {i fr : Nat} {ps : List (List (BitVec 8))} {cur : List (BitVec 8)} (h : DL L i fr ps cur) (hi : i < L.length) (hc : okc (bx L i) = true) : DL L (i + 1) fr ps (cur ++ [bx L i]) := by
  refine ⟨?_, ?_, ?_, ?_, h.pa, ?_⟩
  · rw [h.sp, drop_bx L i hi, List.append_assoc]; rfl
  · rw [List.length_append]; have := h.fc; simp; omega
  · have e : (cur ++ [bx L i]).length = cur.length + 1 := by simp
    have hf := h.fc
    rw [e, take_bx L fr cur.length (by omega), ← h.cu, hf]
  · intro c hm
    rcases List.mem_append.1 hm with h1 | h1
    · exact h.ok c h1
    · rw [List.mem_singleton.1 h1]; exact hc
  · have := h.pl; omega
theorem DL.dot {L : List (BitVec 8)} {i fr : Nat} {ps : List (List (BitVec 8))} {cur : List (BitVec 8)} (h : DL L i fr ps cur) (hi : i < L.length) (hc : bx L i = 46#8) (h0 : 0 < cur.length) (h63 : cur.length ≤ 63) : DL L (i + 1) (i + 1) (ps ++ [cur]) [] := by
  refine ⟨?_, ?_, ?_, ?_, ?_, ?_⟩
  · rw [h.sp, drop_bx L i hi, hc, split_at_dot _ _ (okc_dot h.ok), List.append_assoc]; rfl
  · simp
  · simp
  · intro c hm; cases hm
  · intro p hm
    rcases List.mem_append.1 hm with h1 | h1
    · exact h.pa p h1
    · rw [List.mem_singleton.1 h1]; exact part_iff.2 ⟨h0, h63, h.ok⟩
  · rw [List.length_append]; have := h.pl; simp; omega
set_option maxHeartbeats 8000000 in
set_option maxRecDepth 100000 in
theorem docLabels_dot (w : World) : Calls Tryd.prog 11 #[.string ⟨#[46]⟩] w fun e w' => e = .returned (.tuple #[.slice none 0 0, .int .i64 0]) ∧ w = w' := by
  go_enter Tryd.func11, Tryd.ntmps11
  go_wp2_with fail
  go_ret2
  exact ⟨rfl, rfl⟩
end Go.Proofs.YtddpfbeclmgndaaDoor
