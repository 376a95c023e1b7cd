/-
  name: strings.Split at a dot; Labels.
-/
import Derived.Test.YtddpfbeclmgndaaDoorNmF
import Derived.Test.YtddpfbeclmgndaaDoorOwn
import Derived.Lib.Split
import Derived.Lib.SplitLaws
import Derived.Deep.LoopGhost
import Derived.Deep.Light
import Derived.Laws.Strings3
import Derived.Deep.OwnRows
namespace Go.Proofs.YtddpfbeclmgndaaDoor
open Go Go.RowKit Go.BigFrame
set_option linter.unusedSimpArgs false
set_option linter.unusedVariables false
theorem count_split (l : List (BitVec 8)) : (splitDot l).length = (l.map UInt8.ofBitVec).count 46 + 1 := by
  induction l with
  | nil => rfl
  | cons c l ih =>
    rw [splitDot, List.map_cons, List.count_cons]
    by_cases hc : c = 46#8
    · rw [if_pos hc, List.length_cons, ih, hc]
      rfl
    · have hne : (UInt8.ofBitVec c == 46) = false := by
        rw [beq_eq_false_iff_ne]
        intro h
        exact hc (congrArg UInt8.toBitVec h)
      rw [if_neg hc, hne]
      have h0 := splitDot_ne l
      cases e : splitDot l with
      | nil => exact absurd e h0
      | cons p ps => rw [e] at ih; simpa using ih
theorem split_le (l : List (BitVec 8)) : (splitDot l).length ≤ l.length + 1 := by
  rw [count_split]
  have := List.count_le_length (a := (46 : UInt8)) (l := l.map UInt8.ofBitVec)
  rw [List.length_map] at this
  omega
theorem dotAt_of_two {l : List (BitVec 8)} (h : 2 ≤ (splitDot l).length) : ∃ k, dotAt l = some k := by
  cases e : dotAt l with
  | none => rw [dotAt_none e] at h; simp at h
  | some k => exact ⟨k, rfl⟩
theorem split_one {l : List (BitVec 8)} (h : (splitDot l).length ≤ 1) : splitDot l = [l] := by
  cases e : dotAt l with
  | none => exact dotAt_none e
  | some k =>
    rw [dotAt_some e] at h
    have := splitDot_ne (l.drop (k + 1))
    cases h2 : splitDot (l.drop (k + 1)) with
    | nil => exact absurd h2 this
    | cons a b => rw [h2] at h; simp at h
set_option maxRecDepth 100000 in
theorem count_any (L : List (BitVec 8)) (w : World) : Calls Tryd.prog 55 #[.string (sL L), .string ⟨#[46]⟩] w fun e w' => e = .returned (.int .i64 ((splitDot L).length - 1 : Nat)) ∧ w = w' := by
  have hI : (Lib.countByte (sL L).data.toList ((46 : Int).toNat.toUInt8) : Nat) = (splitDot L).length - 1 := by
    rw [sL_data, count_split]
    rfl
  generalize (splitDot L).length - 1 = D at *
  generalize sL L = S at *
  go_enter Tryd.func55, Tryd.ntmps55
  go_wp2
  rw [run_callFunc_extern Tryd.func64 (by kernel_rfl) (by kernel_rfl) (by kernel_rfl) (e := Extern.BytealgCount.count) (by kernel_rfl), Lib.run_countString]
  erw [hI]
  simp only [Result.andThen]
  rw [Oper.upon_value]
  go_wp2
  go_ret
  exact ⟨rfl, rfl⟩
theorem infoS : (Tryd.prog.info? 9).map (fun i => (i.zero, i.size, i.bytes)) = some (some (.string ByteArray.empty), 1, 16) := by kernel_rfl
/-- A row of texts. -/
def strCells (ps : List (List (BitVec 8))) : Array Value := (ps.map fun p => Value.string (sL p)).toArray
theorem cells_full (ps : List (List (BitVec 8))) : Lib.cellsOf (ps.map sL) ps.length = strCells ps := by
  have := Lib.cellsOf_full (ps.map sL)
  rw [List.length_map] at this
  rw [this, List.map_map]
  rfl
set_option maxHeartbeats 4000000 in
set_option maxRecDepth 100000 in
theorem gsplit_any (L : List (BitVec 8)) (w : World) (hL : L.length ≤ 100000) : Calls Tryd.prog 42 #[.string (sL L), .string ⟨#[46]⟩, .int .i64 0, .int .i64 (-1)] w fun e w' =>
    e = .returned (.slice (some ⟨w.heap.size, 0, none⟩) (splitDot L).length (splitDot L).length) ∧ w' = w.alloc (.cells (strCells (splitDot L)) 9) := by
  have hz := sL_size L
  have HC := Lib.hid (count_any L)
  have hle := split_le L
  have h1 : 1 ≤ (splitDot L).length := List.length_pos_iff.2 (splitDot_ne L)
  have HF := Lib.hid (cells_full (splitDot L))
  obtain ⟨N, hN⟩ : ∃ N, (splitDot L).length = N := ⟨_, rfl⟩
  have HN := Lib.hid hN
  rw [hN] at HC hle h1 HF ⊢
  have eN : ((N - 1 : Nat) : Int) + 1 = (N : Int) := by omega
  have eM : min (N : Int) ((L.length : Int) + 1) = (N : Int) := by omega
  clear hN
  have hmk := run_make_row' (P := Tryd.prog) 23 9 (.string ByteArray.empty) 16 Tryd.underlying23 infoS rfl .i64 .i64 N (by omega) (by omega)
  obtain ⟨S, hS⟩ : ∃ S, sL L = S := ⟨_, rfl⟩
  rw [hS] at hz HC ⊢
  go_enter Tryd.func42, Tryd.ntmps42
  go_wp2_with (go_at_call 55; refine (HC.out _).mono ?_; rintro e w' ⟨rfl, rfl⟩)
  clear hmk
  have hq : ¬ (N : Int) < 0 := by omega
  go_loopg [0, 10] (N - 1) (fun g s0 s10 wr => ∃ (done : List (List (BitVec 8))) (rest : List (BitVec 8)), s0 = .string (sL rest) ∧ s10 = .int .i64 done.length ∧ done.length ≤ N - 1 ∧ g = N - 1 - done.length ∧ rest.length ≤ 100000 ∧
      wr = w.alloc (.cells (Lib.cellsOf (done.map sL) N) 9) ∧ Hid (splitDot L = done ++ splitDot rest))
  case atStart => exact ⟨[], L, by rw [hS], rfl, Nat.zero_le _, rfl, hL, by rw [List.map_nil, Lib.cellsOf_nil], rfl⟩
  case round =>
    obtain ⟨done, rest, rfl, rfl, hd, rfl, hrs, rfl, HS⟩ := hrel
    have hdl : (done.map sL).length = done.length := List.length_map ..
    have hnext : (Lib.cellsOf (done.map sL) N)[done.length]? = some (.string ByteArray.empty) := by
      have := Lib.cellsOf_next (done := done.map sL) (N := N) (by rw [hdl]; omega)
      rwa [hdl] at this
    have hset : ∀ p : List (BitVec 8), (Lib.cellsOf (done.map sL) N).setIfInBounds done.length (.string (sL p)) = Lib.cellsOf ((done ++ [p]).map sL) N := fun p => by
      have := Lib.cellsOf_set (done := done.map sL) (N := N) (by rw [hdl]; omega) (sL p)
      rw [hdl] at this
      rw [this, List.map_append]
      rfl
    have hsize : (Lib.cellsOf (done.map sL) N).size = N := Lib.cellsOf_size (by rw [hdl]; omega)
    have HT := Lib.hid hset
    clear hset
    have hlen : N = done.length + (splitDot rest).length := by have := congrArg List.length HS.out; rw [HN.out, List.length_append] at this; exact this
    have HI := Lib.hid (sindex_any rest)
    by_cases hlt : done.length < N - 1
    · have hltz : ((done.length : Nat) : Int) < (N : Int) - 1 := by omega
      obtain ⟨k, hk⟩ := dotAt_of_two (l := rest) (by omega)
      have hI : dotI rest = (k : Int) := by unfold dotI; rw [hk]
      rw [hI] at HI
      have hkl := dotAt_lt hk
      have i1 : ∀ w' : World, (Instr.sliceAt 9 (.string (sL rest)) none (some (.int .i64 (k : Int))) none).run Tryd.prog w' = .ok (.string (sL (rest.take k))) w' := run_upto_s rest k _ rfl (by omega)
      have i2 : ∀ w' : World, (Instr.sliceAt 9 (.string (sL rest)) (some (.int .i64 ((k : Int) + 1))) none none).run Tryd.prog w' = .ok (.string (sL (rest.drop (k + 1)))) w' := run_from_s rest (k + 1) _ (by omega) (by omega)
      have hp : ¬ (k : Int) < 0 := by omega
      have HX : Hid (splitDot L = (done ++ [rest.take k]) ++ splitDot (rest.drop (k + 1))) := by rw [HS.out, dotAt_some hk, List.append_assoc]; rfl
      have hL2 : (rest.drop (k + 1)).length ≤ 100000 := by rw [List.length_drop]; omega
      have HL := Lib.hid hL2
      clear hL2 hI hk HS hlen
      generalize hT : sL (rest.take k) = T at *
      generalize hU : sL (rest.drop (k + 1)) = U at *
      generalize hR : sL rest = R at *
      go_wp2_with (go_at_call 56; refine (HI.out _).mono ?_; rintro e w' ⟨rfl, rfl⟩)
      go_roundg (N - 1 - (done.length + 1))
      case measure => go_light; omega
      case rel =>
        go_light
        have hs := HT.out (rest.take k)
        rw [hT] at hs
        exact ⟨done ++ [rest.take k], rest.drop (k + 1), by rw [hU], by simp, by simp; omega, by simp, HL.out, by rw [hs], HX.out⟩
    · have hltz : ¬ (((done.length : Nat) : Int) < (N : Int) - 1) := by omega
      have hd1 : done.length + 1 = N := by omega
      have HD := Lib.hid hd1
      have HE : Hid (splitDot L = done ++ [rest]) := by rw [HS.out, split_one (by omega)]; exact rfl
      clear hlen hd1 HS
      generalize hR : sL rest = R at *
      go_wp2
      go_ret
      have hs := HT.out rest
      rw [hR] at hs
      refine ⟨?_, ?_⟩
      · rw [← HD.out]; rfl
      · rw [hs, ← HE.out, HF.out]
set_option maxRecDepth 100000 in
theorem split_any (L : List (BitVec 8)) (w : World) (hL : L.length ≤ 100000) : Calls Tryd.prog 30 #[.string (sL L), .string ⟨#[46]⟩] w fun e w' =>
    e = .returned (.slice (some ⟨w.heap.size, 0, none⟩) (splitDot L).length (splitDot L).length) ∧ w' = w.alloc (.cells (strCells (splitDot L)) 9) := by
  have HG := Lib.hid (fun w => gsplit_any L w hL)
  generalize sL L = S at *
  generalize strCells (splitDot L) = C at *
  go_enter Tryd.func30, Tryd.ntmps30
  go_wp2_with (go_at_call 42; refine (HG.out _).mono ?_; rintro e w' ⟨rfl, rfl⟩)
  go_ret
  exact ⟨rfl, rfl⟩
/-- A name's parts. -/
def labF (L : List (BitVec 8)) : List (List (BitVec 8)) := if L = [46#8] then [] else splitDot (trimF L [46#8])
/-- Texts that lie in memory. -/
def StrsIn (w : World) (a : Option Addr) (n : Nat) (ps : List (List (BitVec 8))) : Prop := n = ps.length ∧ ∃ b, a = some ⟨b, 0, none⟩ ∧ w.heap[b]? = some (.cells (strCells ps) 9 (0, 0))
set_option maxHeartbeats 2000000 in
set_option maxRecDepth 100000 in
theorem labels_bad (L : List (BitVec 8)) (w : World) (hL : L.length ≤ 4611686018427387904) (hr : rightB L = false) : Calls Tryd.prog 12 #[.string (sL L)] w fun e w' =>
    e = .returned (.tuple #[.slice none 0 0, .int .i64 14]) ∧ Below w.heap.size w w' := by
  have HN := Lib.hid (fun w => isName_any L w hL)
  rw [hr] at HN
  generalize sL L = S at *
  go_enter Tryd.func12, Tryd.ntmps12
  go_wp2_with (go_at_call 29; refine (HN.out _).mono ?_; rintro e w1 ⟨rfl, B1⟩)
  go_ret2
  exact ⟨rfl, B1⟩
set_option maxHeartbeats 2000000 in
set_option maxRecDepth 100000 in
theorem labels_dot (w : World) : Calls Tryd.prog 12 #[.string ⟨#[46]⟩] w fun e w' =>
    e = .returned (.tuple #[.slice none 0 0, .int .i64 0]) ∧ Below w.heap.size w w' := by
  have HN := Lib.hid (fun w => isName_any [46#8] w (by decide))
  have hr : rightB [46#8] = true := by decide
  rw [hr, sL_dot] at HN
  go_enter Tryd.func12, Tryd.ntmps12
  go_wp2_with (go_at_call 29; refine (HN.out _).mono ?_; rintro e w1 ⟨rfl, B1⟩)
  go_ret2
  exact ⟨rfl, B1⟩
theorem right_le {L : List (BitVec 8)} (h : rightB L = true) : L.length ≤ 254 := by
  unfold rightB at h
  simp only [Bool.or_eq_true, Bool.and_eq_true, decide_eq_true_eq] at h
  rcases h with h | h
  · rw [h]; decide
  · omega
theorem trim_le (L M : List (BitVec 8)) : (trimF L M).length ≤ L.length := by
  unfold trimF
  split
  · rw [List.length_take]; omega
  · exact Nat.le_refl _
set_option maxHeartbeats 2000000 in
set_option maxRecDepth 100000 in
theorem labels_ok (L : List (BitVec 8)) (w : World) (hr : rightB L = true) (hd : L ≠ [46#8]) : Calls Tryd.prog 12 #[.string (sL L)] w fun e w' =>
    ∃ a, e = .returned (.tuple #[.slice (some ⟨a, 0, none⟩) (labF L).length (labF L).length, .int .i64 0]) ∧ w'.heap[a]? = some (.cells (strCells (labF L)) 9 (0, 0)) ∧ w.heap.size ≤ a ∧ Below w.heap.size w w' := by
  have hl := right_le hr
  have HN := Lib.hid (fun w => isName_any L w (by omega))
  rw [hr] at HN
  have hE : ((sL L).toList == [46]) = decide (L = [46#8]) := by
    have := sL_beq L [46#8]
    rw [sL_list [46#8]] at this
    exact this
  rw [decide_eq_false hd] at hE
  have HT := Lib.hid (fun w => trimSuffix_any L [46#8] w (by omega))
  rw [sL_dot] at HT
  have HS := Lib.hid (fun w => split_any (trimF L [46#8]) w (by have := trim_le L [46#8]; omega))
  have hf : labF L = splitDot (trimF L [46#8]) := by unfold labF; rw [if_neg hd]
  rw [hf]
  generalize splitDot (trimF L [46#8]) = P at *
  generalize sL (trimF L [46#8]) = T at *
  generalize sL L = S at *
  generalize strCells P = C at *
  generalize P.length = N at *
  clear hf
  go_enter Tryd.func12, Tryd.ntmps12
  go_wp2_with (first | (go_at_call 29; refine (HN.out _).mono ?_; rintro e w1 ⟨rfl, B1⟩) | (go_at_call 31; refine (HT.out _).mono ?_; rintro e w' ⟨rfl, rfl⟩) | (go_at_call 30; refine (HS.out _).mono ?_; rintro e w2 ⟨rfl, H2⟩))
  subst H2
  go_ret2
  exact ⟨w1.heap.size, rfl, World.alloc_heap_new _ _, B1.size, B1.alloc B1.size _⟩
end Go.Proofs.YtddpfbeclmgndaaDoor
