/-
  THE LAW's from, THE DOCUMENT's Same.
  THE DOCUMENT's number AND name.
  WHAT getLong ANSWERS, CASE BY CASE.
  WHAT THE DOCUMENT's Get WANTS: bits, names, where it stands.
  WHAT Put MADE, READ BY Get (plain mathematics): the parts of a header in a row of bytes.
  Get OF WHAT Put MADE (plain mathematics): each kind.
  Get OF WHAT Put MADE: an Initial; all kinds in one.
  PACKETS ONE BEHIND THE OTHER (plain mathematics): Get of a long header whose first byte's lowest bits are anything.
  PACKETS ONE BEHIND THE OTHER (plain mathematics): rows of headers, their bytes, where their numbers begin.
  PacketPuts OF A HEADER WHOSE PARTS ARE KNOWN.
  ARRAYS OF BYTES THAT CAME IN, by value, alone or in a struct.
  A HEADER THAT CAME IN.
  A []Header THAT CAME IN.
  WHAT IS PUT IS GOT: the program's Put and Get, as contracts that a law can join.
  PacketRows' first loop: one more packet behind the others.
  PacketRows, of parts that are known.
-/
import Derived.Test.YtcgbhcmgddgheaaDoorRdG
import Derived.Test.YtcgbhcmgddgheaaDoorPackL
import Derived.Test.YtcgbhcmgddgheaaDoorPackM
import Derived.Test.YtcgbhcmgddgheaaDoorRowIn
import Derived.Test.YtcgbhcmgddgheaaDoorKit
import Derived.Deep.Slices
import Derived.SizedLaws
import Derived.Test.YtcgbhcmgddgheaaDoorInts
namespace Go.Proofs.YtcgbhcmgddgheaaDoor
open Go Go.RowKit Go.BigFrame
set_option linter.unusedSimpArgs false
set_option linter.unusedVariables false
set_option maxRecDepth 100000
theorem refhd_zero : (Tryd.prog.info? 63).map (·.zero) = some (some (.agg (hdC 0 0 ⟨#[]⟩ ⟨#[]⟩ ⟨#[]⟩ 0 0 0 false (.slice none 0 0)))) := by kernel_rfl
theorem hdC_one' (k v : Int) (D S T : ByteArray) (l N z : Int) (ph : Bool) (aL : Option Addr) (m cL : Nat) : (hdC k v D S T l N z ph (.slice aL m cL)).all (·.oneCell') = true := by
  simp [hdC, Value.oneCell']
set_option maxHeartbeats 4000000 in
theorem ints_same (a1 a2 : Option Addr) (c1 c2 : Nat) (G : List Int) (w : World) (h1 : IntsIn w (.slice a1 G.length c1) G) (h2 : IntsIn w (.slice a2 G.length c2) G) :
    Calls Tryd.prog 70 #[.slice a1 G.length c1, .slice a2 G.length c2] w fun e w' => e = .returned (.bool true) ∧ Below w.heap.size w w' := by
  obtain ⟨a', c', e1, hc1, at1⟩ := h1.at_
  injection e1 with e1 _ e3
  subst e1 e3
  obtain ⟨a', c', e1, hc2, at2⟩ := h2.at_
  injection e1 with e1 _ e3
  subst e1 e3
  have hn63 : G.length ≤ 9223372036854775807 := by have := hc1.1; have := hc1.2; unfold maxLen at *; omega
  have H1 := Lib.hid at1
  have H2 := Lib.hid at2
  clear h1 h2 at1 at2 hc1 hc2
  obtain ⟨n, hn⟩ : ∃ n, G.length = n := ⟨_, rfl⟩
  have HN := Lib.hid hn
  rw [hn]
  have hn' : n ≤ 9223372036854775807 := by omega
  clear hn hn63
  go_enter Tryd.func70, Tryd.ntmps70
  go_wp2_with fail
  go_loopw [5] (fun s5 wr => ∃ j : Nat, j ≤ n ∧ Below w.heap.size w wr ∧ s5 = .int .i64 (j : Int)) (fun s5 _ => ((n : Int) - intOf s5).toNat)
  case atStart => exact ⟨0, by omega, Below.refl _ _, rfl⟩
  case round =>
    obtain ⟨j, hj, hb, rfl⟩ := hrel
    have HB := Lib.hid hb
    by_cases hlt : j < n
    · have hjG : j < G.length := by have := HN.out; omega
      obtain ⟨b1, o1, rfl, l1, hcell1⟩ := H1.out j hjG
      obtain ⟨b2, o2, rfl, l2, hcell2⟩ := H2.out j hjG
      generalize G[j] = y at hcell1 hcell2
      rw [← hb.cell (p := ⟨b1, o1 + j, none⟩) l1] at hcell1
      rw [← hb.cell (p := ⟨b2, o2 + j, none⟩) l2] at hcell2
      have d1 : wr.drew.cell? ⟨b1, o1 + j, none⟩ = some (.int .i64 y) := hcell1
      have d2 : wr.drew.cell? ⟨b2, o2 + j, none⟩ = some (.int .i64 y) := hcell2
      have hji : (j : Int) < (n : Int) := by omega
      clear hjG hb l1 l2
      go_upto_region 6 with (fail)
      go_region
      go_wp2_with fail
      go_roundw
      case rel => exact ⟨j + 1, by omega, HB.out.drew, by congr 1⟩
      case measure => simp [intOf]; omega
    · obtain rfl : j = n := by omega
      clear hb
      go_wp2_with fail
      go_ret
      exact ⟨rfl, HB.out⟩
set_option maxHeartbeats 4000000 in
theorem from_any (k v l N z : Int) (D S T : ByteArray) (ph : Bool) (aL : Option Addr) (m cL : Nat) (w : World) :
    Calls Tryd.prog 39 #[.agg (hdC k v D S T l N z ph (.slice aL m cL))] w fun e w' => e = .returned (.agg (hdC k v D S T l N z ph (.slice aL m cL))) ∧ Below w.heap.size w w' := by
  unfold hdC
  go_enter Tryd.func39, Tryd.ntmps39
  go_upto_region 1 with (first
    | (refine wpList_alloc_row (o := ⟨some 2, .alloc 63, _, _, _, _⟩) rfl 63 rfl _ refhd_zero ?_)
    | fail)
  have r0 := rows_alloc w [.cells (hdC k v D S T l N z ph (.slice aL m cL)) 66, .cells (hdC 0 0 ⟨#[]⟩ ⟨#[]⟩ ⟨#[]⟩ 0 0 0 false (.slice none 0 0)) 63] 0
  have r1 := rows_alloc w [.cells (hdC k v D S T l N z ph (.slice aL m cL)) 66, .cells (hdC 0 0 ⟨#[]⟩ ⟨#[]⟩ ⟨#[]⟩ 0 0 0 false (.slice none 0 0)) 63] 1
  have bel : Below w.heap.size w ((w.alloc (.cells (hdC k v D S T l N z ph (.slice aL m cL)) 66)).alloc (.cells (hdC 0 0 ⟨#[]⟩ ⟨#[]⟩ ⟨#[]⟩ 0 0 0 false (.slice none 0 0)) 63)) := ((Below.refl w.heap.size w).alloc (Nat.le_refl _) _).alloc (by simp) _
  have hs1 : (w.alloc (.cells (hdC k v D S T l N z ph (.slice aL m cL)) 66)).heap.size = w.heap.size + 1 := by simp
  simp only [List.foldl_cons, List.foldl_nil, Nat.add_zero] at r0 r1
  have RB := Lib.hid bel
  rw [show (w.alloc (.cells #[.int .i64 k, .int .i64 v, .string D, .string S, .string T, .int .i64 l, .int .i64 N, .int .i64 z, .bool ph, .slice aL m cL] 66)) = (w.alloc (.cells (hdC k v D S T l N z ph (.slice aL m cL)) 66)) from rfl]
  try rw [hs1]
  generalize World.alloc _ _ = w1 at *
  obtain ⟨c0, c1, c2, c3, c4, c5, c6, c7, c8, c9⟩ := cells10 r0
  have R1 := Lib.hid r1
  clear r0 r1 bel hs1
  go_wp2_with (first
    | (refine wpList_store_row (op := ⟨none, .store 63 _ _, _, _, _, _⟩) rfl 63 _ _ rfl (w.heap.size + 1) 63 _ (hdC k v D S T l N z ph (.slice aL m cL)) rfl rfl R1.out rfl (by kernel_rfl) (hdC_one' _ _ _ _ _ _ _ _ _ _ _ _) ?_
       intro w9 rs
       have RS9 := Lib.hid rs
       clear rs)
    | fail)
  refine ret_row (w.heap.size + 1) 63 63 (hdC k v D S T l N z ph (.slice aL m cL)) rfl _ rfl RS9.out.row Tryd.underlying63 rfl (by kernel_rfl) rfl ?_
  exact ⟨rfl, RB.out.trans (RS9.out.below _ (Nat.le_succ _))⟩
set_option maxHeartbeats 8000000 in
theorem same_yes (k v l N z : Int) (D S T : ByteArray) (ph : Bool) (a1 a2 : Option Addr) (c1 c2 : Nat) (G : List Int) (w : World) (h1 : IntsIn w (.slice a1 G.length c1) G) (h2 : IntsIn w (.slice a2 G.length c2) G) :
    Calls Tryd.prog 38 #[.agg (hdC k v D S T l N z ph (.slice a1 G.length c1)), .agg (hdC k v D S T l N z ph (.slice a2 G.length c2))] w fun e w' => e = .returned (.bool true) ∧ Below w.heap.size w w' := by
  have IS := Lib.hid (fun (w' : World) (hb : Below w.heap.size w w') => ints_same a1 a2 c1 c2 G w' (h1.later hb) (h2.later hb))
  clear h1 h2
  generalize G.length = n at *
  unfold hdC
  have bel : Below w.heap.size w ((w.alloc (.cells #[.int .i64 k, .int .i64 v, .string D, .string S, .string T, .int .i64 l, .int .i64 N, .int .i64 z, .bool ph, .slice a1 n c1] 63)).alloc (.cells #[.int .i64 k, .int .i64 v, .string D, .string S, .string T, .int .i64 l, .int .i64 N, .int .i64 z, .bool ph, .slice a2 n c2] 63)) := ((Below.refl w.heap.size w).alloc (Nat.le_refl _) _).alloc (by simp) _
  have BEL := Lib.hid bel
  clear bel
  go_enter Tryd.func38, Tryd.ntmps38
  go_wp2_with fail
  with_reducible refine (IS.out _ BEL.out).mono ?_
  rintro x w' ⟨rfl, hb⟩
  have HB := Lib.hid (BEL.out.trans (hb.mono BEL.out.size))
  clear hb
  go_wp2_with fail
  go_ret
  exact ⟨rfl, HB.out⟩
end Go.Proofs.YtcgbhcmgddgheaaDoor
namespace Go.Proofs.YtcgbhcmgddgheaaDoor
open Go Go.RowKit Go.BigFrame
set_option linter.unusedSimpArgs false
set_option linter.unusedVariables false
set_option maxRecDepth 100000
set_option maxHeartbeats 4000000 in
theorem refNumber_any (g : Nat → BitVec 8) (n : Nat) (hn : n ≤ 4) (w : World) :
    Calls Tryd.prog 64 #[.string (strOf g n)] w fun e w' => e = .returned (.int .i64 (numG g n : Nat)) ∧ w = w' := by
  have hs := strOf_size g n
  go_enter Tryd.func64, Tryd.ntmps64
  go_wp2_with fail
  go_loopw [3, 4] (fun s3 s4 wr => ∃ j : Nat, j ≤ n ∧ wr = w ∧ s4 = .int .i64 (j : Int) ∧ s3 = .int .i64 (numG g j : Nat)) (fun _ s4 _ => ((n : Int) - intOf s4).toNat)
  case atStart => exact ⟨0, by omega, rfl, rfl, rfl⟩
  case round =>
    obtain ⟨j, hj, rfl, rfl, rfl⟩ := hrel
    by_cases hlt : j < n
    · have hx := run_at_str g n j hlt wr
      have hji : (j : Int) < (n : Int) := by omega
      go_wp2_with fail
      have hj4 : numG g j < 4294967296 := Nat.lt_of_lt_of_le (numG_lt _ j) (Nat.le_trans (Nat.pow_le_pow_right (by decide) (show j ≤ 4 by omega)) (by decide))
      have hb := (g j).isLt
      refine ⟨⟨j + 1, by omega, trivial, by congr 1, ?_⟩, by simp [intOf]; omega⟩
      congr 1
      rw [n8_nat, show numG g (j + 1) = numG g j * 256 + (g j).toNat from rfl]
      unfold wrap64
      omega
    · obtain rfl : j = n := by omega
      go_wp2_with fail
      go_ret
      exact ⟨rfl, rfl⟩
theorem run_tail_str (f : Nat → BitVec 8) (lo len : Nat) (h1 : lo ≤ len) (w : World) :
    (Instr.sliceAt 9 (.string (strOf f len)) (some (.int .i64 (lo : Int))) none none).run Tryd.prog w = .ok (.string (strOf (fun i => f (lo + i)) (len - lo))) w := by
  have hu : Tryd.prog.underlying 9 = some .string := by kernel_rfl
  rw [← str_cut f lo len len h1 (Nat.le_refl _)]
  have h0 : (0 : Int) ≤ (lo : Int) := by omega
  have h4 : (lo : Int) ≤ ((strOf f len).size : Int) := by rw [strOf_size]; omega
  have hz := strOf_size f len
  simp [Instr.sliceAt, Instr.slice, Instr.sliceBounds, run_underlying hu, go_sem, h0, h4, Sem.run_bind]
  try (rw [hz])
  try omega
/-- Why a name is none: how many bytes are left, its count. -/
def nmR (left c : Nat) : Int := if left = 0 then 3 else if 20 < c then 2 else if left - 1 < c then 3 else 0
def nmOut (g : Nat → BitVec 8) (n : Nat) : Value :=
  if nmR n (g 0).toNat = 0 then .tuple #[.string (strOf (fun i => g (1 + i)) (g 0).toNat), .string (strOf (fun i => g (1 + (g 0).toNat + i)) (n - (1 + (g 0).toNat))), .int .i64 0] else .tuple #[.string ⟨#[]⟩, .string ⟨#[]⟩, .int .i64 (nmR n (g 0).toNat)]
set_option maxHeartbeats 4000000 in
theorem refName_any (g : Nat → BitVec 8) (n : Nat) (hn : n ≤ 9223372036854775807) (w : World) :
    Calls Tryd.prog 65 #[.string (strOf g n)] w fun e w' => e = .returned (nmOut g n) ∧ Below w.heap.size w w' := by
  have hs := strOf_size g n
  by_cases h0 : n = 0
  · rw [show nmOut g n = .tuple #[.string ⟨#[]⟩, .string ⟨#[]⟩, .int .i64 3] from by unfold nmOut; rw [show nmR n (g 0).toNat = 3 from by unfold nmR; rw [if_pos h0], if_neg (by decide)]]
    subst h0
    rw [str_empty]
    go_enter Tryd.func65, Tryd.ntmps65
    go_wp2_with fail
    go_ret3
    exact ⟨rfl, Below.refl _ _⟩
  have he := str_full (f := g) h0
  have hx := run_at_str g n 0 (by omega) w
  rw [show ((0 : Nat) : Int) = 0 from rfl] at hx
  obtain ⟨c, hc⟩ : ∃ c, (g 0).toNat = c := ⟨_, rfl⟩
  have hw : wrap64 (n8 (g 0)) = (c : Int) := by rw [n8_nat, hc]; have := (g 0).isLt; unfold wrap64; omega
  have hc8 : c < 256 := by rw [← hc]; exact (g 0).isLt
  unfold nmOut
  rw [hc]
  clear hc
  by_cases h20 : 20 < c
  · rw [show nmR n c = 2 from by unfold nmR; rw [if_neg h0, if_pos h20], if_neg (by decide)]
    generalize strOf g n = s at *
    have h20i : (20 : Int) < (c : Int) := by omega
    go_enter Tryd.func65, Tryd.ntmps65
    go_wp2_with fail
    go_ret3
    exact ⟨rfl, Below.refl _ _⟩
  by_cases hl : n - 1 < c
  · rw [show nmR n c = 3 from by unfold nmR; rw [if_neg h0, if_neg h20, if_pos hl], if_neg (by decide)]
    generalize strOf g n = s at *
    have h20i : ¬ (20 : Int) < (c : Int) := by omega
    have hli : (n : Int) - 1 < (c : Int) := by omega
    go_enter Tryd.func65, Tryd.ntmps65
    go_wp2_with fail
    go_ret3
    exact ⟨rfl, Below.refl _ _⟩
  · rw [show nmR n c = 0 from by unfold nmR; rw [if_neg h0, if_neg h20, if_neg hl], if_pos rfl]
    have k1 : ∀ w : World, _ := run_cut_str g 1 (1 + c) n (by omega) (by omega)
    have k2 : ∀ w : World, _ := run_tail_str g (1 + c) n (by omega)
    rw [show 1 + c - 1 = c by omega, show ((1 : Nat) : Int) = 1 from rfl, show ((1 + c : Nat) : Int) = 1 + (c : Int) by omega] at k1
    rw [show ((1 + c : Nat) : Int) = 1 + (c : Int) by omega] at k2
    generalize strOf (fun i => g (1 + i)) c = t1 at *
    generalize strOf (fun i => g (1 + c + i)) (n - (1 + c)) = t2 at *
    generalize strOf g n = s at *
    have h20i : ¬ (20 : Int) < (c : Int) := by omega
    have hli : ¬ (n : Int) - 1 < (c : Int) := by omega
    go_enter Tryd.func65, Tryd.ntmps65
    go_upto_region 8 with (fail)
    go_region
    go_wp2_with fail
    go_ret3
    exact ⟨rfl, (Below.refl _ _).drew⟩
end Go.Proofs.YtcgbhcmgddgheaaDoor
namespace Go.Proofs.YtcgbhcmgddgheaaDoor
open Go Go.RowKit Go.BigFrame
set_option linter.unusedSimpArgs false
set_option linter.unusedVariables false
theorem tk_err {len p : Nat} {e : Int} {n : Nat} (h : ¬ e = 0) : tkN len p e n = 0 ∧ tkE len p e n = e := by
  unfold tkN tkE
  rw [if_neg (by omega), if_neg (by omega)]
  exact ⟨rfl, rfl⟩
theorem tk_ok {len p n : Nat} (h : n ≤ len - p) : tkN len p 0 n = n ∧ tkE len p 0 n = 0 := by
  unfold tkN tkE
  rw [if_pos ⟨rfl, h⟩, if_neg (by omega)]
  exact ⟨rfl, rfl⟩
theorem tk_no {len p n : Nat} (h : len - p < n) : tkN len p 0 n = 0 ∧ tkE len p 0 n = 3 := by
  unfold tkN tkE
  rw [if_neg (by omega), if_pos ⟨rfl, h⟩]
  exact ⟨rfl, rfl⟩
theorem am_err {n most e : Int} (h : ¬ e = 0) : amE n most e = e := by unfold amE; rw [if_neg (by omega)]
theorem am_ok {n most : Int} (h : n ≤ most) : amE n most 0 = 0 := by unfold amE; rw [if_neg (by omega)]
theorem am_no {n most : Int} (h : most < n) : amE n most 0 = 2 := by unfold amE; rw [if_pos ⟨rfl, h⟩]
theorem nmK_ok {n most : Nat} (h : n ≤ most) : nmK n most 0 = n := by unfold nmK; rw [if_pos ⟨rfl, h⟩]
theorem tx_err {len p n most : Nat} {e : Int} (h : ¬ e = 0) : txN len p n most e = 0 ∧ txE len p n most e = e := by
  unfold txN txE
  rw [am_err h]
  exact tk_err h
theorem tx_big {len p n most : Nat} (h : most < n) : txN len p n most 0 = 0 ∧ txE len p n most 0 = 2 := by
  unfold txN txE
  rw [am_no (by omega)]
  exact tk_err (by omega)
theorem tx_ok {len p n most : Nat} (h : n ≤ most) (hl : n ≤ len - p) : txN len p n most 0 = n ∧ txE len p n most 0 = 0 := by
  unfold txN txE
  rw [am_ok (by omega), nmK_ok h]
  exact tk_ok hl
theorem tx_no {len p n most : Nat} (h : n ≤ most) (hl : len - p < n) : txN len p n most 0 = 0 ∧ txE len p n most 0 = 3 := by
  unfold txN txE
  rw [am_ok (by omega), nmK_ok h]
  exact tk_no hl
theorem numG_one (f : Nat → BitVec 8) (p : Nat) : numG (fun i => f (p + i)) 1 = (f p).toNat := by simp [numG]
theorem nm_err {len : Nat} {f : Nat → BitVec 8} {p : Nat} {e : Int} (h : ¬ e = 0) : nmE len f p e = e := by
  unfold nmE
  rw [(tk_err h).2, (tx_err h).2]
theorem nm_bad {len : Nat} {f : Nat → BitVec 8} {p : Nat} {r : Int} (h : nmR (len - p) (f p).toNat = r) (hr : ¬ r = 0) : nmE len f p 0 = r := by
  unfold nmE nmC
  unfold nmR at h
  by_cases h0 : len - p = 0
  · rw [if_pos h0] at h
    rw [(tk_no (by omega)).1, (tk_no (by omega)).2, (tx_err (by omega)).2]
    exact h
  · rw [if_neg h0] at h
    rw [(tk_ok (by omega)).1, (tk_ok (by omega)).2, numG_one]
    by_cases h1 : 20 < (f p).toNat
    · rw [if_pos h1] at h
      rw [(tx_big h1).2]; exact h
    · rw [if_neg h1] at h
      by_cases h2 : len - p - 1 < (f p).toNat
      · rw [if_pos h2] at h
        rw [(tx_no (by omega) (by omega)).2]; exact h
      · rw [if_neg h2] at h
        exact absurd h.symm hr
theorem nm_ok {len : Nat} {f : Nat → BitVec 8} {p : Nat} (h : nmR (len - p) (f p).toNat = 0) : nmE len f p 0 = 0 ∧ nmP len f p 0 = p + 1 + (f p).toNat ∧ nmS len f p 0 = strOf (fun i => f (p + 1 + i)) (f p).toNat ∧ p + 1 + (f p).toNat ≤ len := by
  unfold nmR at h
  by_cases h0 : len - p = 0
  · rw [if_pos h0] at h; cases h
  rw [if_neg h0] at h
  by_cases h1 : 20 < (f p).toNat
  · rw [if_pos h1] at h; cases h
  rw [if_neg h1] at h
  by_cases h2 : len - p - 1 < (f p).toNat
  · rw [if_pos h2] at h; cases h
  have hN : nmN len f p 0 = (f p).toNat := by
    unfold nmN nmC
    rw [(tk_ok (by omega)).1, (tk_ok (by omega)).2, numG_one]
    exact (tx_ok (by omega) (by omega)).1
  have hE : nmE len f p 0 = 0 := by
    unfold nmE nmC
    rw [(tk_ok (by omega)).1, (tk_ok (by omega)).2, numG_one]
    exact (tx_ok (by omega) (by omega)).2
  refine ⟨hE, ?_, ?_, by omega⟩
  · unfold nmP; rw [hN, (tk_ok (by omega)).1]
  · unfold nmS; rw [hN, (tk_ok (by omega)).1]
theorem end_err {len : Nat} {k v : Int} {D S T : ByteArray} {l : Nat} {G : List Int} {p : Nat} {e : Int} (h : ¬ e = 0) : longEnd len k v D S T l G p e = Got.no e := by
  unfold longEnd
  rw [(tk_err h).2, if_neg h]
theorem ct_err {len : Nat} {f : Nat → BitVec 8} {p most : Nat} {e : Int} (h : ¬ e = 0) : ctE len f p most e = e := by unfold ctE; rw [if_neg h]
theorem longKind_err {f : Nat → BitVec 8} {len kd V : Nat} {D S : ByteArray} {p : Nat} {e : Int} (h : ¬ e = 0) : longKind f len kd V D S p e = Got.no e := by
  unfold longKind
  split
  · rw [show vsE len p e = e from by unfold vsE; rw [am_err h, if_neg (by omega)]]
    exact end_err h
  · split
    · rw [(tx_err h).2]; exact end_err h
    · split
      · rw [ct_err h, (tx_err h).2, ct_err h]; exact end_err h
      · rw [ct_err h]; exact end_err h
theorem long_few {f : Nat → BitVec 8} {len : Nat} (h : len < 5) : long f len = Got.no 3 := by
  unfold long
  rw [(tk_no (by omega)).2, nm_err (p := 1 + tkN len 1 0 4) (by omega), nm_err (by omega)]
  exact longKind_err (by omega)
theorem long_n1 {f : Nat → BitVec 8} {len : Nat} {r : Int} (h5 : 5 ≤ len) (h : nmR (len - 5) (f 5).toNat = r) (hr : ¬ r = 0) : long f len = Got.no r := by
  unfold long
  rw [(tk_ok (by omega)).1, (tk_ok (by omega)).2, nm_bad h hr, nm_err hr]
  exact longKind_err hr
theorem long_n2 {f : Nat → BitVec 8} {len : Nat} {r : Int} (h5 : 5 ≤ len) (h1 : nmR (len - 5) (f 5).toNat = 0) (h : nmR (len - (5 + 1 + (f 5).toNat)) (f (5 + 1 + (f 5).toNat)).toNat = r) (hr : ¬ r = 0) : long f len = Got.no r := by
  unfold long
  rw [(tk_ok (by omega)).1, (tk_ok (by omega)).2, (nm_ok h1).1, (nm_ok h1).2.1, nm_bad h hr]
  exact longKind_err hr
theorem long_ok {f : Nat → BitVec 8} {len : Nat} (h5 : 5 ≤ len) (h1 : nmR (len - 5) (f 5).toNat = 0) (h2 : nmR (len - (5 + 1 + (f 5).toNat)) (f (5 + 1 + (f 5).toNat)).toNat = 0) :
    long f len = longKind f len (f 0 >>> 4 &&& 3#8).toNat (numG (fun i => f (1 + i)) 4) (strOf (fun i => f (5 + 1 + i)) (f 5).toNat) (strOf (fun i => f (5 + 1 + (f 5).toNat + 1 + i)) (f (5 + 1 + (f 5).toNat)).toNat)
      (5 + 1 + (f 5).toNat + 1 + (f (5 + 1 + (f 5).toNat)).toNat) 0 := by
  unfold long
  rw [(tk_ok (by omega)).1, (tk_ok (by omega)).2, (nm_ok h1).1, (nm_ok h1).2.1, (nm_ok h1).2.2.1, (nm_ok h2).1, (nm_ok h2).2.1, (nm_ok h2).2.2.1]
theorem lk_v_bad {f : Nat → BitVec 8} {len kd : Nat} {D S : ByteArray} {p : Nat} (h : (len - p) % 4 ≠ 0 ∨ len - p = 0 ∨ 64 < len - p) : longKind f len kd 0 D S p 0 = Got.no 2 := by
  unfold longKind
  have hv : vsE len p 0 = 2 := by
    unfold vsE
    by_cases h1 : (16 : Int) < ((len - p) / 4 : Nat)
    · rw [am_no h1, if_neg (by omega)]
    · rw [am_ok (by omega), if_pos ⟨rfl, by omega⟩]
  rw [if_pos rfl, hv]
  exact end_err (by omega)
theorem lk_v_ok {f : Nat → BitVec 8} {len kd : Nat} {D S : ByteArray} {p : Nat} (h : ¬ ((len - p) % 4 ≠ 0 ∨ len - p = 0 ∨ 64 < len - p)) : longKind f len kd 0 D S p 0 = ⟨5, 0, D, S, ⟨#[]⟩, 0, vsG f p ((len - p) / 4), len, len, 0⟩ := by
  unfold longKind
  have hv : vsE len p 0 = 0 := by
    unfold vsE
    rw [am_ok (by omega), if_neg (by omega)]
  rw [if_pos rfl, hv, if_pos rfl, if_pos rfl]
  unfold longEnd
  rw [(tk_ok (by omega)).1, (tk_ok (by omega)).2, if_pos rfl]
  rfl
theorem lk_3_bad {f : Nat → BitVec 8} {len V : Nat} {D S : ByteArray} {p : Nat} (hV : V ≠ 0) (h : 512 < len - p) : longKind f len 3 V D S p 0 = Got.no 2 := by
  unfold longKind
  rw [if_neg hV, if_pos rfl, (tx_big h).2]
  exact end_err (by omega)
theorem lk_3_ok {f : Nat → BitVec 8} {len V : Nat} {D S : ByteArray} {p : Nat} (hV : V ≠ 0) (hp : p ≤ len) (h : len - p ≤ 512) : longKind f len 3 V D S p 0 = ⟨3, V, D, S, strOf (fun i => f (p + i)) (len - p), 0, [], len, len, 0⟩ := by
  unfold longKind
  rw [if_neg hV, if_pos rfl, (tx_ok h (Nat.le_refl _)).1, (tx_ok h (Nat.le_refl _)).2]
  unfold longEnd
  rw [(tk_ok (by omega)).1, (tk_ok (by omega)).2, if_pos rfl, show p + (len - p) = len by omega]
  rfl
/-- A count, and what is left behind it. -/
def cnt (f : Nat → BitVec 8) (len : Nat) (k : Int) (V : Nat) (D S T : ByteArray) (p : Nat) (e : Int) : Got := longEnd len k (V : Int) D S T (ctV len f p 16383 e) [] (ctP len f p e) (ctE len f p 16383 e)
theorem ct_no {f : Nat → BitVec 8} {len p most : Nat} (h : ctG len f p = false) : ctE len f p most 0 = 3 := by unfold ctE; rw [if_pos rfl, if_neg (by rw [h]; decide)]
theorem ct_big {f : Nat → BitVec 8} {len p most : Nat} (h : ctG len f p = true) (hb : most < getV (fun i => f (p + i)) (len - p)) : ctE len f p most 0 = 2 := by unfold ctE; rw [if_pos rfl, if_pos h, am_no (by omega)]
theorem ct_ok {f : Nat → BitVec 8} {len p most : Nat} (h : ctG len f p = true) (hb : getV (fun i => f (p + i)) (len - p) ≤ most) :
    ctE len f p most 0 = 0 ∧ ctV len f p most 0 = getV (fun i => f (p + i)) (len - p) ∧ ctP len f p 0 = p + getK (fun i => f (p + i)) (len - p) := by
  unfold ctE ctV ctP
  rw [if_pos rfl, if_pos h, if_pos ⟨rfl, h⟩, if_pos ⟨rfl, h⟩, am_ok (by omega), nmK_ok hb]
  exact ⟨rfl, rfl, rfl⟩
theorem cnt_no {f : Nat → BitVec 8} {len V : Nat} {k : Int} {D S T : ByteArray} {p : Nat} (h : ctG len f p = false) : cnt f len k V D S T p 0 = Got.no 3 := by unfold cnt; rw [ct_no h]; exact end_err (by omega)
theorem cnt_big {f : Nat → BitVec 8} {len V : Nat} {k : Int} {D S T : ByteArray} {p : Nat} (h : ctG len f p = true) (hb : 16383 < getV (fun i => f (p + i)) (len - p)) : cnt f len k V D S T p 0 = Got.no 2 := by unfold cnt; rw [ct_big h hb]; exact end_err (by omega)
theorem cnt_few {f : Nat → BitVec 8} {len V : Nat} {k : Int} {D S T : ByteArray} {p : Nat} (h : ctG len f p = true) (hb : getV (fun i => f (p + i)) (len - p) ≤ 16383) (hl : len - (p + getK (fun i => f (p + i)) (len - p)) < getV (fun i => f (p + i)) (len - p)) : cnt f len k V D S T p 0 = Got.no 3 := by
  unfold cnt
  rw [(ct_ok h hb).1, (ct_ok h hb).2.1, (ct_ok h hb).2.2]
  unfold longEnd
  rw [(tk_no hl).2, if_neg (by omega)]
theorem cnt_ok {f : Nat → BitVec 8} {len V : Nat} {k : Int} {D S T : ByteArray} {p : Nat} (h : ctG len f p = true) (hb : getV (fun i => f (p + i)) (len - p) ≤ 16383) (hl : getV (fun i => f (p + i)) (len - p) ≤ len - (p + getK (fun i => f (p + i)) (len - p))) :
    cnt f len k V D S T p 0 = ⟨k, V, D, S, T, (getV (fun i => f (p + i)) (len - p) : Nat), [], p + getK (fun i => f (p + i)) (len - p), p + getK (fun i => f (p + i)) (len - p) + getV (fun i => f (p + i)) (len - p), 0⟩ := by
  unfold cnt
  rw [(ct_ok h hb).1, (ct_ok h hb).2.1, (ct_ok h hb).2.2]
  unfold longEnd
  rw [(tk_ok hl).1, (tk_ok hl).2, if_pos rfl]
theorem lk_other {f : Nat → BitVec 8} {len kd V : Nat} {D S : ByteArray} {p : Nat} (hV : V ≠ 0) (h3 : kd ≠ 3) (h0 : kd ≠ 0) : longKind f len kd V D S p 0 = cnt f len kd V D S ⟨#[]⟩ p 0 := by
  unfold longKind cnt
  rw [if_neg hV, if_neg h3, if_neg h0]
theorem lk_0_no {f : Nat → BitVec 8} {len V : Nat} {D S : ByteArray} {p : Nat} (hV : V ≠ 0) (h : ctG len f p = false) : longKind f len 0 V D S p 0 = Got.no 3 := by
  unfold longKind
  rw [if_neg hV, if_neg (by decide), if_pos rfl, ct_no h, (tx_err (by omega)).2, ct_err (by omega)]
  exact end_err (by omega)
theorem lk_0_big {f : Nat → BitVec 8} {len V : Nat} {D S : ByteArray} {p : Nat} (hV : V ≠ 0) (h : ctG len f p = true) (hb : 512 < getV (fun i => f (p + i)) (len - p)) : longKind f len 0 V D S p 0 = Got.no 2 := by
  unfold longKind
  rw [if_neg hV, if_neg (by decide), if_pos rfl, ct_big h hb, (tx_err (by omega)).2, ct_err (by omega)]
  exact end_err (by omega)
theorem lk_0_few {f : Nat → BitVec 8} {len V : Nat} {D S : ByteArray} {p : Nat} (hV : V ≠ 0) (h : ctG len f p = true) (hb : getV (fun i => f (p + i)) (len - p) ≤ 512) (hl : len - (p + getK (fun i => f (p + i)) (len - p)) < getV (fun i => f (p + i)) (len - p)) : longKind f len 0 V D S p 0 = Got.no 3 := by
  unfold longKind
  rw [if_neg hV, if_neg (by decide), if_pos rfl, (ct_ok h hb).1, (ct_ok h hb).2.1, (ct_ok h hb).2.2, (tx_no hb hl).2, ct_err (by omega)]
  exact end_err (by omega)
theorem lk_0_ok {f : Nat → BitVec 8} {len V : Nat} {D S : ByteArray} {p : Nat} (hV : V ≠ 0) (h : ctG len f p = true) (hb : getV (fun i => f (p + i)) (len - p) ≤ 512) (hl : getV (fun i => f (p + i)) (len - p) ≤ len - (p + getK (fun i => f (p + i)) (len - p))) :
    longKind f len 0 V D S p 0 = cnt f len 0 V D S (strOf (fun i => f (p + getK (fun i => f (p + i)) (len - p) + i)) (getV (fun i => f (p + i)) (len - p))) (p + getK (fun i => f (p + i)) (len - p) + getV (fun i => f (p + i)) (len - p)) 0 := by
  unfold longKind cnt
  rw [if_neg hV, if_neg (by decide), if_pos rfl, (ct_ok h hb).1, (ct_ok h hb).2.1, (ct_ok h hb).2.2, (tx_ok hb hl).1, (tx_ok hb hl).2]
end Go.Proofs.YtcgbhcmgddgheaaDoor
namespace Go.Proofs.YtcgbhcmgddgheaaDoor
open Go Go.RowKit Go.BigFrame
set_option linter.unusedSimpArgs false
set_option linter.unusedVariables false
set_option maxRecDepth 100000
theorem all8 {p : BitVec 8 → Prop} [DecidablePred p] (h : ∀ n, n < 256 → p (BitVec.ofNat 8 n)) (x : BitVec 8) : p x := by
  have h1 := h x.toNat x.isLt
  rwa [BitVec.ofNat_toNat, BitVec.setWidth_eq] at h1
theorem bit128 (x : BitVec 8) : (x &&& 128#8 = 0#8) ↔ x.toNat < 128 := all8 (p := fun x => (x &&& 128#8 = 0#8) ↔ x.toNat < 128) (by decide +kernel) x
theorem bit64 (x : BitVec 8) : (x &&& 64#8 = 0#8) ↔ (x.toNat < 64 ∨ (128 ≤ x.toNat ∧ x.toNat < 192)) := all8 (p := fun x => (x &&& 64#8 = 0#8) ↔ (x.toNat < 64 ∨ (128 ≤ x.toNat ∧ x.toNat < 192))) (by decide +kernel) x
theorem kind4 (x : BitVec 8) : (x >>> 4 &&& 3#8).toNat = x.toNat / 16 % 4 := all8 (p := fun x => (x >>> 4 &&& 3#8).toNat = x.toNat / 16 % 4) (by decide +kernel) x
theorem numG_zero (g : Nat → BitVec 8) : numG g 4 = 0 ↔ (g 0 = 0#8 ∧ g 1 = 0#8 ∧ g 2 = 0#8 ∧ g 3 = 0#8) := by
  have z : ∀ x : BitVec 8, x = 0#8 ↔ x.toNat = 0 := fun x => ⟨fun h => by rw [h]; rfl, fun h => by apply BitVec.eq_of_toNat_eq; rw [h]; rfl⟩
  rw [z, z, z, z]
  simp only [numG]
  omega
theorem sv_iff (f : Nat → BitVec 8) (len : Nat) : sv f len ↔ (128 ≤ (f 0).toNat ∧ 5 ≤ len ∧ numG (fun i => f (1 + i)) 4 = 0) := by
  unfold sv
  rw [bit128, numG_zero]
  constructor
  · rintro ⟨h1, h2, h3, h4, h5, h6⟩; exact ⟨by omega, h2, h3, h4, h5, h6⟩
  · rintro ⟨h1, h2, h3, h4, h5, h6⟩; exact ⟨by omega, h2, h3, h4, h5, h6⟩
theorem nmOut_ok {f : Nat → BitVec 8} {p len : Nat} (h : nmR (len - p) (f p).toNat = 0) : nmOut (fun i => f (p + i)) (len - p) = .tuple #[.string (strOf (fun i => f (p + 1 + i)) (f p).toNat), .string (strOf (fun i => f (p + 1 + (f p).toNat + i)) (len - (p + 1 + (f p).toNat))), .int .i64 0] := by
  unfold nmOut
  rw [show (fun i => f (p + i)) 0 = f p from rfl, if_pos h]
  simp only [Nat.add_assoc]
  rw [show len - p - (1 + (f p).toNat) = len - (p + (1 + (f p).toNat)) by omega]
theorem nmOut_bad {f : Nat → BitVec 8} {p len : Nat} {r : Int} (h : nmR (len - p) (f p).toNat = r) (hr : ¬ r = 0) : nmOut (fun i => f (p + i)) (len - p) = .tuple #[.string ⟨#[]⟩, .string ⟨#[]⟩, .int .i64 r] := by
  unfold nmOut
  rw [show (fun i => f (p + i)) 0 = f p from rfl, h, if_neg hr]
/-- Where DocGet stands: the result's row, 'none'. -/
structure DSt (w0 : World) (n : Nat) (w : World) : Prop where
  rs : w.heap[n]? = some (.cells (hdC 0 0 ⟨#[]⟩ ⟨#[]⟩ ⟨#[]⟩ 0 0 0 false (.slice none 0 0)) 63 (0, 0))
  nn : w.heap[n + 1]? = some (.cells (hdC 0 0 ⟨#[]⟩ ⟨#[]⟩ ⟨#[]⟩ 0 0 0 false (.slice none 0 0)) 63 (0, 0))
  bl : Below n w0 w
theorem DSt.later {w0 w w' : World} {n : Nat} (h : DSt w0 n w) (hb : Below w.heap.size w w') : DSt w0 n w' :=
  ⟨(hb.block _ (lt_row h.rs)).trans h.rs, (hb.block _ (lt_row h.nn)).trans h.nn, h.bl.trans (hb.mono (by have := lt_row h.rs; omega))⟩
theorem getP_long {f : Nat → BitVec 8} {len : Nat} {own : Int} (ho : 0 ≤ own ∧ own ≤ 20) (hl : len ≠ 0) (hF : 128 ≤ (f 0).toNat) (hn : 192 ≤ (f 0).toNat ∨ (5 ≤ len ∧ numG (fun i => f (1 + i)) 4 = 0)) : getP f len own = long f len := by
  unfold getP
  rw [if_neg (by omega), if_neg hl, if_neg, if_neg (fun h => by have := (bit128 _).1 h; omega)]
  rintro ⟨h1, h2⟩
  rw [bit64] at h1
  rw [sv_iff] at h2
  omega
end Go.Proofs.YtcgbhcmgddgheaaDoor
namespace Go.Proofs.YtcgbhcmgddgheaaDoor
open Go Go.RowKit Go.BigFrame
set_option linter.unusedSimpArgs false
set_option linter.unusedVariables false
/-- A text's bytes. -/
def bx (S : ByteArray) (i : Nat) : BitVec 8 := (S.data.toList.getD i 0).toBitVec
theorem bx_str (S : ByteArray) : strOf (bx S) S.size = S := by
  apply ByteArray.ext
  apply Array.ext'
  show (strL _ S.size).toArray.toList = S.data.toList
  have hl : S.data.toList.length = S.size := by simp
  apply List.ext_getElem?
  intro i
  unfold bx
  by_cases h : i < S.size
  · simp [strL, h]
  · rw [List.getElem?_eq_none (by simp [strL]; omega), List.getElem?_eq_none (by omega)]
theorem bx_of (f : Nat → BitVec 8) (n i : Nat) (h : i < n) : bx (strOf f n) i = f i := by
  have h1 := (strOf_eq (bx (strOf f n)) f n).1 (by have := bx_str (strOf f n); rwa [strOf_size] at this)
  exact h1 i h
theorem bx_left (A B : ByteArray) (i : Nat) (h : i < A.size) : bx (A ++ B) i = bx A i := by
  unfold bx
  rw [ByteArray.data_append, Array.toList_append]
  have hl : A.data.toList.length = A.size := by simp
  rw [List.getD_eq_getElem?_getD, List.getD_eq_getElem?_getD, List.getElem?_append_left (by omega)]
theorem bx_right (A B : ByteArray) (i : Nat) : bx (A ++ B) (A.size + i) = bx B i := by
  unfold bx
  rw [ByteArray.data_append, Array.toList_append]
  have hl : A.data.toList.length = A.size := by simp
  rw [List.getD_eq_getElem?_getD, List.getD_eq_getElem?_getD, List.getElem?_append_right (by omega), hl, show A.size + i - A.size = i by omega]
/-- A text lies in a row of bytes from a place on. -/
def Sg (F : Nat → BitVec 8) (o : Nat) (X : ByteArray) : Prop := ∀ i, i < X.size → F (o + i) = bx X i
theorem size_append (A B : ByteArray) : (A ++ B).size = A.size + B.size := by simp
theorem Sg.left {F : Nat → BitVec 8} {o : Nat} {A B : ByteArray} (h : Sg F o (A ++ B)) : Sg F o A := fun i hi => by
  rw [h i (by rw [size_append]; omega), bx_left _ _ _ hi]
theorem Sg.right {F : Nat → BitVec 8} {o : Nat} {A B : ByteArray} (h : Sg F o (A ++ B)) : Sg F (o + A.size) B := fun i hi => by
  rw [Nat.add_assoc, h _ (by rw [size_append]; omega), bx_right]
theorem Sg.at {F : Nat → BitVec 8} {o n : Nat} {g : Nat → BitVec 8} (h : Sg F o (strOf g n)) (i : Nat) (hi : i < n) : F (o + i) = g i := by
  rw [h i (by rw [strOf_size]; exact hi), bx_of _ _ _ hi]
theorem Sg.text {F : Nat → BitVec 8} {o n : Nat} {X : ByteArray} (h : Sg F o X) (hn : X.size = n) : strOf (fun i => F (o + i)) n = X := by
  subst hn
  rw [(strOf_eq _ _ _).2 h, bx_str]
theorem low_size (N : Int) (z : Nat) : (lowS N z).size = z := strOf_size _ _
theorem low_one {F : Nat → BitVec 8} {o : Nat} {N : Int} (h : Sg F o (lowS N 1)) : F o = BitVec.ofInt 8 N := by
  have := Sg.at h 0 (by omega)
  rw [Nat.add_zero] at this
  rw [this]
  unfold numB
  rw [show 8 * (1 - 1 - 0) = 0 by omega]
  simp
theorem low_one_nat {F : Nat → BitVec 8} {o n : Nat} (h : Sg F o (lowS (n : Int) 1)) (hn : n < 256) : (F o).toNat = n := by
  rw [low_one h, BitVec.toNat_ofInt]
  omega
theorem low_four {F : Nat → BitVec 8} {o : Nat} {v : Int} (h : Sg F o (lowS v 4)) (h0 : 0 ≤ v) (h1 : v < 4294967296) : ((numG (fun i => F (o + i)) 4 : Nat) : Int) = v := by
  have a0 := Sg.at h 0 (by omega)
  have a1 := Sg.at h 1 (by omega)
  have a2 := Sg.at h 2 (by omega)
  have a3 := Sg.at h 3 (by omega)
  have b0 := congrArg BitVec.toNat a0
  have b1 := congrArg BitVec.toNat a1
  have b2 := congrArg BitVec.toNat a2
  have b3 := congrArg BitVec.toNat a3
  simp only [numB, BitVec.toNat_ofInt, Nat.reduceSub, Nat.reduceMul] at b0 b1 b2 b3
  show ((((0 * 256 + (F (o + 0)).toNat) * 256 + (F (o + 1)).toNat) * 256 + (F (o + 2)).toNat) * 256 + (F (o + 3)).toNat : Nat) = v
  rw [b0, b1, b2, b3]
  simp only [Int.reducePow, Nat.reducePow]
  omega
theorem getN_agree {f g : Nat → BitVec 8} : ∀ j, (∀ i, i ≤ j → f i = g i) → getN f j = getN g j
  | 0, h => by unfold getN; rw [h 0 (Nat.le_refl _)]
  | j + 1, h => by
    show getN f j <<< 8 ||| (f (j + 1)).setWidth 64 = getN g j <<< 8 ||| (g (j + 1)).setWidth 64
    rw [getN_agree j (fun i hi => h i (by omega)), h (j + 1) (Nat.le_refl _)]
/-- A number as vlq puts it, read. -/
theorem num_at (g : Nat → BitVec 8) (len : Nat) (x : BitVec 64) (k : Nat) (hk : k < 4) (hx : x.toNat < 2 ^ (8 * 2 ^ k - 2)) (hl : 2 ^ k ≤ len) (h : ∀ i, i < 2 ^ k → g i = vbyte x k i) :
    isNum g len = true ∧ getV g len = x.toNat ∧ getK g len = 2 ^ k := by
  have hpos : 0 < 2 ^ k := Nat.two_pow_pos k
  have hb := gotten_back x k hk hx
  unfold gotten at hb
  have hb : #[Value.int .u64 ((getV (vbyte x k) (2 ^ k) : Nat) : Int), Value.int .i64 ((getK (vbyte x k) (2 ^ k) : Nat) : Int), Value.int .i64 (getE (vbyte x k) (2 ^ k))] = #[.int .u64 (n64 x), .int .i64 ((2 ^ k : Nat) : Int), .int .i64 0] := by injection hb
  have e1 : ((getV (vbyte x k) (2 ^ k) : Nat) : Int) = n64 x := by
    have := congrArg (fun a => a[0]?) hb
    simpa using this
  have e2 : ((getK (vbyte x k) (2 ^ k) : Nat) : Int) = ((2 ^ k : Nat) : Int) := by
    have := congrArg (fun a => a[1]?) hb
    have h3 : some (Value.int .i64 ((getK (vbyte x k) (2 ^ k) : Nat) : Int)) = some (Value.int .i64 ((2 ^ k : Nat) : Int)) := this
    injection h3 with h3
    injection h3
  have hnum : isNum (vbyte x k) (2 ^ k) = true := by
    cases hq : isNum (vbyte x k) (2 ^ k) with
    | true => rfl
    | false =>
      unfold getK at e2
      rw [hq, if_neg (by decide)] at e2
      have e3 : 0 = 2 ^ k := Int.ofNat.inj e2
      omega
  have hgk : gk g = gk (vbyte x k) := by unfold gk; rw [h 0 hpos]
  unfold getV at e1
  unfold getK at e2
  rw [if_pos hnum] at e1 e2
  have e2' : 2 ^ gk (vbyte x k) = 2 ^ k := by exact Int.ofNat.inj e2
  have hn : isNum g len = true := by
    unfold isNum
    rw [hgk, e2']
    exact decide_eq_true ⟨by omega, hl⟩
  refine ⟨hn, ?_, ?_⟩
  · unfold getV
    rw [if_pos hn, hgk, e2']
    rw [e2'] at e1
    rw [getN_agree (g := vbyte x k) (2 ^ k - 1) (fun i hi => h i (by omega))]
    rw [n64_nat] at e1
    exact Int.ofNat.inj e1
  · unfold getK
    rw [if_pos hn, hgk, e2']
end Go.Proofs.YtcgbhcmgddgheaaDoor
namespace Go.Proofs.YtcgbhcmgddgheaaDoor
open Go Go.RowKit Go.BigFrame
set_option linter.unusedSimpArgs false
set_option linter.unusedVariables false
/-- A text of numbers of four bytes each. -/
theorem fours_size : ∀ (G : List Int) (P : ByteArray), (G.foldl (fun s x => s ++ lowS x 4) P).size = P.size + 4 * G.length
  | [], P => rfl
  | x :: G, P => by
    rw [List.foldl_cons, fours_size G, size_append, low_size, List.length_cons]
    omega
theorem fours_left {F : Nat → BitVec 8} {o : Nat} : ∀ (G : List Int) (P : ByteArray), Sg F o (G.foldl (fun s x => s ++ lowS x 4) P) → Sg F o P
  | [], P, h => h
  | x :: G, P, h => (fours_left G (P ++ lowS x 4) h).left
theorem fours_at {F : Nat → BitVec 8} {o : Nat} : ∀ (G : List Int) (P : ByteArray), Sg F o (G.foldl (fun s x => s ++ lowS x 4) P) → ∀ j (hj : j < G.length), Sg F (o + P.size + 4 * j) (lowS G[j] 4)
  | [], P, h, j, hj => by simp at hj
  | x :: G, P, h, j, hj => by
    cases j with
    | zero => exact (fours_left G (P ++ lowS x 4) h).right
    | succ j =>
      have h1 := fours_at G (P ++ lowS x 4) h j (by simpa using hj)
      rw [size_append, low_size] at h1
      have e : o + P.size + 4 * (j + 1) = o + (P.size + 4) + 4 * j := by omega
      rw [e]
      exact h1
theorem pre_size (k v : Int) (z : Nat) (ph : Bool) (D S : ByteArray) : (preS k v z ph D S).size = 7 + D.size + S.size := by
  unfold preS
  simp only [size_append, low_size]
  omega
/-- What lies at a long header's front. -/
structure Front (F : Nat → BitVec 8) (first : Int) (v : Int) (D S : ByteArray) : Prop where
  f0 : F 0 = BitVec.ofInt 8 first
  v4 : ((numG (fun i => F (1 + i)) 4 : Nat) : Int) = v
  nd : (F 5).toNat = D.size
  d : strOf (fun i => F (6 + i)) D.size = D
  ns : (F (6 + D.size)).toNat = S.size
  s : strOf (fun i => F (7 + D.size + i)) S.size = S
theorem front_of {F : Nat → BitVec 8} {k v : Int} {z : Nat} {ph : Bool} {D S : ByteArray} (h : Sg F 0 (preS k v z ph D S)) (hv0 : 0 ≤ v) (hv1 : v < 4294967296) (hD : D.size ≤ 20) (hS : S.size ≤ 20) : Front F (firstN k z ph) v D S := by
  unfold preS at h
  have hA := h.left.left.left
  have hB := h.left.left.right
  have hC := h.left.right
  have hE := h.right
  simp only [size_append, low_size, Nat.zero_add] at hB hC hE
  rw [show 1 + 4 = 5 from rfl] at hC
  have e1 : 1 + 4 + (1 + D.size) = 6 + D.size := by omega
  rw [e1] at hE
  have hC1 := hC.left
  have hC2 := hC.right
  have hE1 := hE.left
  have hE2 := hE.right
  rw [low_size] at hC2 hE2
  refine ⟨low_one hA, low_four hB hv0 hv1, low_one_nat hC1 (by omega), hC2.text rfl, low_one_nat hE1 (by omega), ?_⟩
  have e2 : 6 + D.size + 1 = 7 + D.size := by omega
  rw [e2] at hE2
  exact hE2.text rfl
theorem Front.long {F : Nat → BitVec 8} {first v : Int} {D S : ByteArray} (h : Front F first v D S) (len : Nat) (hD : D.size ≤ 20) (hS : S.size ≤ 20) (hl : 7 + D.size + S.size ≤ len) :
    long F len = longKind F len (F 0 >>> 4 &&& 3#8).toNat (numG (fun i => F (1 + i)) 4) D S (7 + D.size + S.size) 0 := by
  have n1 : nmR (len - 5) (F 5).toNat = 0 := by rw [h.nd]; unfold nmR; rw [if_neg (by omega), if_neg (by omega), if_neg (by omega)]
  have n2 : nmR (len - (5 + 1 + (F 5).toNat)) (F (5 + 1 + (F 5).toNat)).toNat = 0 := by
    rw [h.nd, show 5 + 1 + D.size = 6 + D.size by omega, h.ns]; unfold nmR; rw [if_neg (by omega), if_neg (by omega), if_neg (by omega)]
  rw [long_ok (by omega) n1 n2, h.nd, show 5 + 1 + D.size = 6 + D.size by omega, h.ns]
  rw [show 6 + D.size + 1 + S.size = 7 + D.size + S.size by omega]
  have e1 : strOf (fun i => F (5 + 1 + i)) D.size = D := h.d
  have e2 : strOf (fun i => F (6 + D.size + 1 + i)) S.size = S := by
    rw [show 6 + D.size + 1 = 7 + D.size by omega]; exact h.s
  rw [e1, e2]
theorem front_getP {F : Nat → BitVec 8} {k v : Int} {z : Nat} {ph : Bool} {D S : ByteArray} (h : Front F (firstN k z ph) v D S) (len : Nat) (hD : D.size ≤ 20) (hS : S.size ≤ 20) (hl : 7 + D.size + S.size ≤ len) (kd : Nat)
    (hk : (k = 5 ∧ kd = 0) ∨ (k = 3 ∧ kd = 3) ∨ (1 ≤ z ∧ z ≤ 4 ∧ (k = 0 ∧ kd = 0 ∨ k = 1 ∧ kd = 1 ∨ k = 2 ∧ kd = 2))) :
    getP F len (D.size : Int) = longKind F len kd (numG (fun i => F (1 + i)) 4) D S (7 + D.size + S.size) 0 := by
  have hn : 192 ≤ (F 0).toNat ∧ (F 0).toNat / 16 % 4 = kd := by
    rw [h.f0, BitVec.toNat_ofInt]
    unfold firstN
    rcases hk with ⟨rfl, rfl⟩ | ⟨rfl, rfl⟩ | ⟨h1, h2, ⟨rfl, rfl⟩ | ⟨rfl, rfl⟩ | ⟨rfl, rfl⟩⟩
    · simp
    · simp
    · rw [if_neg (by omega), if_neg (by omega), if_neg (by omega)]; omega
    · rw [if_neg (by omega), if_neg (by omega), if_neg (by omega)]; omega
    · rw [if_neg (by omega), if_neg (by omega), if_neg (by omega)]; omega
  rw [getP_long ⟨by omega, by omega⟩ (by omega) (by omega) (.inl hn.1), h.long len hD hS hl, kind4, hn.2]
/-- A short header. -/
theorem gotS_short {F : Nat → BitVec 8} {N : Int} {z : Nat} {ph : Bool} {D : ByteArray} (h : Sg F 0 (lowS (firstN 4 z ph) 1 ++ D ++ lowS N z)) (len : Nat) (hD : D.size ≤ 20) (hz1 : 1 ≤ z) (hz : z ≤ 4) (hl : 1 + D.size + z ≤ len) :
    getP F len (D.size : Int) = ⟨4, 0, D, ⟨#[]⟩, ⟨#[]⟩, 0, [], 1 + D.size, len, 0⟩ := by
  have h0 := low_one h.left.left
  have h1 := h.left.right
  rw [low_size, Nat.zero_add] at h1
  have hn : 64 ≤ (F 0).toNat ∧ (F 0).toNat < 128 := by
    rw [h0, BitVec.toNat_ofInt]
    unfold firstN
    rw [if_neg (by omega), if_neg (by omega), if_pos rfl]
    cases ph
    · rw [if_neg (by decide)]; omega
    · rw [if_pos rfl]; omega
  unfold getP
  rw [if_neg (by omega), if_neg (by omega), if_neg (fun hh => by have := (bit64 _).1 hh.1; omega), if_pos ((bit128 _).2 hn.2), if_neg (by omega)]
  have e : strOf (fun i => F (1 + i)) (D.size : Int).toNat = D := h1.text (by simp)
  rw [e]
  simp
/-- A list of versions. -/
theorem got_list {F : Nat → BitVec 8} {z : Nat} {ph : Bool} {D S : ByteArray} {G : List Int} (h : Sg F 0 (G.foldl (fun s x => s ++ lowS x 4) (preS 5 0 z ph D S))) (len : Nat) (hD : D.size ≤ 20) (hS : S.size ≤ 20) (hG : ∀ x ∈ G, 0 ≤ x ∧ x < 4294967296)
    (hG0 : G ≠ []) (hG1 : G.length ≤ 16) (hl : len = 7 + D.size + S.size + 4 * G.length) :
    getP F len (D.size : Int) = ⟨5, 0, D, S, ⟨#[]⟩, 0, G, len, len, 0⟩ := by
  have hf := front_of (fours_left G _ h) (by omega) (by omega) hD hS
  have hpos : 0 < G.length := List.length_pos_iff.2 hG0
  rw [front_getP hf len hD hS (by omega) 0 (.inl ⟨rfl, rfl⟩)]
  have hv : numG (fun i => F (1 + i)) 4 = 0 := by have := hf.v4; omega
  rw [hv, lk_v_ok (by omega)]
  have e : vsG F (7 + D.size + S.size) ((len - (7 + D.size + S.size)) / 4) = G := by
    rw [show (len - (7 + D.size + S.size)) / 4 = G.length by omega]
    apply List.ext_getElem?
    intro j
    by_cases hj2 : j < G.length
    · have h1 := fours_at G _ h j hj2
      rw [pre_size, Nat.zero_add] at h1
      have hx := hG G[j] (List.getElem_mem hj2)
      have h2 := low_four h1 hx.1 hx.2
      have h3 : (vsG F (7 + D.size + S.size) G.length)[j]? = some ((numG (fun i => F (7 + D.size + S.size + 4 * j + i)) 4 : Nat) : Int) := by simp [vsG, hj2]
      rw [h3, h2, List.getElem?_eq_getElem hj2]
    · rw [List.getElem?_eq_none (by rw [vsG_len]; omega), List.getElem?_eq_none (by omega)]
  rw [e]
/-- A Retry. -/
theorem got_retry {F : Nat → BitVec 8} {v : Int} {z : Nat} {ph : Bool} {D S : ByteArray} {tf : Nat → BitVec 8} {nt : Nat} (h : Sg F 0 (preS 3 v z ph D S ++ strOf tf nt)) (len : Nat) (hD : D.size ≤ 20) (hS : S.size ≤ 20) (hv0 : 0 < v) (hv1 : v < 4294967296) (hnt : nt ≤ 512)
    (hl : len = 7 + D.size + S.size + nt) : getP F len (D.size : Int) = ⟨3, v, D, S, strOf tf nt, 0, [], len, len, 0⟩ := by
  have hf := front_of h.left (by omega) hv1 hD hS
  rw [front_getP hf len hD hS (by omega) 3 (.inr (.inl ⟨rfl, rfl⟩))]
  have hv := hf.v4
  rw [lk_3_ok (by omega) (by omega) (by omega), hv]
  have h1 := h.right
  rw [pre_size, Nat.zero_add] at h1
  have e : strOf (fun i => F (7 + D.size + S.size + i)) (len - (7 + D.size + S.size)) = strOf tf nt := h1.text (by rw [strOf_size]; omega)
  rw [e]
theorem len_read {F : Nat → BitVec 8} {o : Nat} {l : Int} (h : Sg F o (lenS l)) (h0 : 0 ≤ l) (h1 : l ≤ 16383) (len : Nat) (hl : 2 ≤ len) :
    isNum (fun i => F (o + i)) len = true ∧ getV (fun i => F (o + i)) len = l.toNat ∧ getK (fun i => F (o + i)) len = 2 := by
  have hx : (BitVec.ofInt 64 l).toNat = l.toNat := by rw [BitVec.toNat_ofInt]; omega
  have := num_at (fun i => F (o + i)) len (BitVec.ofInt 64 l) 1 (by omega) (by rw [hx]; simp; omega) (by simpa using hl) (fun i hi => h.at i (by simpa using hi))
  rw [hx] at this
  simpa using this
/-- Behind the names (or the token): the length. -/
theorem got_cnt {F : Nat → BitVec 8} {o : Nat} {l N : Int} {z : Nat} (h : Sg F o (lenS l ++ lowS N z)) (h0 : 0 ≤ l) (h1 : l ≤ 16383) (len V : Nat) (k : Int) (D S T : ByteArray) (hl : o + 2 + z ≤ len) :
    cnt F len k V D S T o 0 = if l.toNat ≤ len - (o + 2) then ⟨k, V, D, S, T, l, [], o + 2, o + 2 + l.toNat, 0⟩ else Got.no 3 := by
  obtain ⟨a1, a2, a3⟩ := len_read h.left h0 h1 (len - o) (by omega)
  by_cases hq : l.toNat ≤ len - (o + 2)
  · rw [if_pos hq, cnt_ok a1 (by rw [a2]; omega) (by rw [a2, a3]; exact hq), a2, a3, show ((l.toNat : Nat) : Int) = l by omega]
  · rw [if_neg hq, cnt_few a1 (by rw [a2]; omega) (by rw [a2, a3]; omega)]
theorem got_hand {F : Nat → BitVec 8} {k v l N : Int} {z : Nat} {ph : Bool} {D S : ByteArray} (h : Sg F 0 (preS k v z ph D S ++ lenS l ++ lowS N z)) (hk : k = 1 ∨ k = 2) (len : Nat) (hD : D.size ≤ 20) (hS : S.size ≤ 20) (hv0 : 0 < v) (hv1 : v < 4294967296)
    (h0 : 0 ≤ l) (h1 : l ≤ 16383) (hz1 : 1 ≤ z) (hz : z ≤ 4) (hl : 9 + D.size + S.size + z ≤ len) :
    getP F len (D.size : Int) = if l.toNat ≤ len - (9 + D.size + S.size) then ⟨k, v, D, S, ⟨#[]⟩, l, [], 9 + D.size + S.size, 9 + D.size + S.size + l.toNat, 0⟩ else Got.no 3 := by
  have hf := front_of h.left.left (by omega) hv1 hD hS
  have h2 : Sg F (7 + D.size + S.size) (lenS l ++ lowS N z) := fun i hi => by
    have e1 := h.left.right
    have e2 := h.right
    rw [pre_size, Nat.zero_add] at e1
    rw [size_append, pre_size, Nat.zero_add] at e2
    by_cases hlt : i < (lenS l).size
    · rw [bx_left _ _ _ hlt]; exact e1 i hlt
    · obtain ⟨j, rfl⟩ : ∃ j, i = (lenS l).size + j := ⟨i - (lenS l).size, by omega⟩
      rw [bx_right, ← Nat.add_assoc]
      exact e2 j (by rw [size_append] at hi; omega)
  have hv := hf.v4
  have hV : numG (fun i => F (1 + i)) 4 ≠ 0 := by omega
  have e9 : 7 + D.size + S.size + 2 = 9 + D.size + S.size := by omega
  rcases hk with rfl | rfl
  · rw [front_getP hf len hD hS (by omega) 1 (.inr (.inr ⟨hz1, hz, .inr (.inl ⟨rfl, rfl⟩)⟩)), lk_other hV (by omega) (by omega), got_cnt h2 h0 h1 len _ _ D S _ (by omega), hv, e9]; rfl
  · rw [front_getP hf len hD hS (by omega) 2 (.inr (.inr ⟨hz1, hz, .inr (.inr ⟨rfl, rfl⟩)⟩)), lk_other hV (by omega) (by omega), got_cnt h2 h0 h1 len _ _ D S _ (by omega), hv, e9]; rfl
end Go.Proofs.YtcgbhcmgddgheaaDoor
namespace Go.Proofs.YtcgbhcmgddgheaaDoor
open Go Go.RowKit Go.BigFrame
set_option linter.unusedSimpArgs false
set_option linter.unusedVariables false
theorem Sg.join {F : Nat → BitVec 8} {o : Nat} {A B : ByteArray} (h1 : Sg F o A) (h2 : Sg F (o + A.size) B) : Sg F o (A ++ B) := fun i hi => by
  by_cases hlt : i < A.size
  · rw [bx_left _ _ _ hlt]; exact h1 i hlt
  · obtain ⟨j, rfl⟩ : ∃ j, i = A.size + j := ⟨i - A.size, by omega⟩
    rw [bx_right, ← Nat.add_assoc]
    exact h2 j (by rw [size_append] at hi; omega)
theorem tok_size (nt : Nat) (tf : Nat → BitVec 8) : (strOf (textB nt tf) (textK nt + nt)).size = textK nt + nt := strOf_size _ _
theorem lenS_size (l : Int) : (lenS l).size = 2 := strOf_size _ _
theorem got_init {F : Nat → BitVec 8} {v l N : Int} {z : Nat} {ph : Bool} {D S : ByteArray} {tf : Nat → BitVec 8} {nt : Nat} (h : Sg F 0 (preS 0 v z ph D S ++ strOf (textB nt tf) (textK nt + nt) ++ lenS l ++ lowS N z)) (len : Nat) (hD : D.size ≤ 20) (hS : S.size ≤ 20)
    (hv0 : 0 < v) (hv1 : v < 4294967296) (h0 : 0 ≤ l) (h1 : l ≤ 16383) (hz1 : 1 ≤ z) (hz : z ≤ 4) (hnt : nt ≤ 512) (hl : 9 + D.size + S.size + (textK nt + nt) + z ≤ len) :
    getP F len (D.size : Int) = if l.toNat ≤ len - (9 + D.size + S.size + (textK nt + nt)) then ⟨0, v, D, S, strOf tf nt, l, [], 9 + D.size + S.size + (textK nt + nt), 9 + D.size + S.size + (textK nt + nt) + l.toNat, 0⟩ else Got.no 3 := by
  have hf := front_of h.left.left.left (by omega) hv1 hD hS
  have ht := h.left.left.right
  have e1 := h.left.right
  have e2 := h.right
  rw [pre_size, Nat.zero_add] at ht
  simp only [size_append, pre_size, tok_size, lenS_size, Nat.zero_add] at e1 e2
  have h2 : Sg F (7 + D.size + S.size + (textK nt + nt)) (lenS l ++ lowS N z) := e1.join (by rw [lenS_size]; exact e2)
  have hv := hf.v4
  have hV : numG (fun i => F (1 + i)) 4 ≠ 0 := by omega
  have hx : (BitVec.ofNat 64 nt).toNat = nt := by rw [BitVec.toNat_ofNat]; omega
  have hk : 0 < textK nt := Nat.two_pow_pos _
  have hnum := num_at (fun i => F (7 + D.size + S.size + i)) (len - (7 + D.size + S.size)) (BitVec.ofNat 64 nt) (least (BitVec.ofNat 64 nt)) (least_lt _) (least_fits _ (by rw [hx]; omega)) (by show textK nt ≤ _; omega) (fun i hi => by
    have := ht.at i (by show i < textK nt + nt; have : i < textK nt := hi; omega)
    rw [this]
    show joinb _ (textK nt) tf i = _
    unfold joinb
    rw [if_pos (show i < textK nt from hi)])
  obtain ⟨a1, a2, a3⟩ := hnum
  rw [hx] at a2
  have a3 : getK (fun i => F (7 + D.size + S.size + i)) (len - (7 + D.size + S.size)) = textK nt := a3
  rw [front_getP hf len hD hS (by omega) 0 (.inr (.inr ⟨hz1, hz, .inl ⟨rfl, rfl⟩⟩)), lk_0_ok hV a1 (by rw [a2]; exact hnt) (by rw [a2, a3]; omega), a2, a3]
  have et : strOf (fun i => F (7 + D.size + S.size + textK nt + i)) nt = strOf tf nt := (strOf_eq _ _ nt).2 (fun i hi => by
    have := ht.at (textK nt + i) (by omega)
    rw [Nat.add_assoc, this]
    show joinb _ (textK nt) tf (textK nt + i) = _
    unfold joinb
    rw [if_neg (by omega), show textK nt + i - textK nt = i by omega])
  have e9 : 7 + D.size + S.size + (textK nt + nt) + 2 = 9 + D.size + S.size + (textK nt + nt) := by omega
  rw [et, show 7 + D.size + S.size + textK nt + nt = 7 + D.size + S.size + (textK nt + nt) by omega, got_cnt h2 h0 h1 len _ _ D S _ (by omega), hv, e9]
/-- All kinds: what Get answers of what Put made, with m bytes behind it. -/
def backG (k v : Int) (D S : ByteArray) (tf : Nat → BitVec 8) (nt : Nat) (l : Int) (z : Nat) (G : List Int) (n m : Nat) : Got :=
  if k < 3 then (if l ≤ (z : Int) + m then ⟨k, v, D, S, strOf tf nt, l, G, n - z, n - z + l.toNat, 0⟩ else Got.no 3)
  else if k = 4 then ⟨k, v, D, S, strOf tf nt, l, G, n - z, n + m, 0⟩
  else ⟨k, v, D, S, strOf tf nt, l, G, n, n, 0⟩
theorem got_back {F : Nat → BitVec 8} (k v l N : Int) (z : Nat) (D S : ByteArray) (tf : Nat → BitVec 8) (nt : Nat) (ph : Bool) (G : List Int) (hin : inB G D.size S.size nt v l N (z : Int)) (hf : inF k v l N (z : Int) S.size nt G.length ph)
    (n m : Nat) (hn : (hputS k v D S tf nt l N z ph G).size = n) (hm : k = 3 ∨ k = 5 → m = 0) (h : Sg F 0 (hputS k v D S tf nt l N z ph G)) : getP F (n + m) (D.size : Int) = backG k v D S tf nt l z G n m := by
  obtain ⟨hG, hG1, hD, hS, hnt, hw, ⟨h0, h1⟩, hN, hz⟩ := hin
  have hw : 0 ≤ v ∧ v < 4294967296 := by unfold word32 at hw; omega
  have hGw : ∀ x ∈ G, 0 ≤ x ∧ x < 4294967296 := fun x hx => by have := hG x hx; unfold word32 at this; omega
  unfold backG
  rcases hf with ⟨rfl, ⟨hv, rfl, hg⟩, hz0⟩ | ⟨hk, ⟨hv, rfl, hg⟩, hz0, rfl⟩ | ⟨rfl, ⟨hv, rfl, hg⟩, rfl, rfl, hz0⟩ | ⟨rfl, hz0, rfl, rfl, hs, rfl, hg⟩ | ⟨rfl, ⟨rfl, rfl, hz0⟩, rfl, rfl, rfl, hg⟩
  · obtain rfl : G = [] := List.length_eq_zero_iff.1 hg
    rw [if_pos (by omega)]
    unfold hputS at h hn
    rw [if_neg (by omega), if_neg (by omega), if_neg (by omega), if_pos rfl] at h hn
    simp only [size_append, pre_size, tok_size, lenS_size, low_size] at hn
    rw [got_init h (n + m) hD hS (by omega) hw.2 h0 h1 (by omega) (by omega) hnt (by omega)]
    by_cases hq : l ≤ (z : Int) + m
    · rw [if_pos hq, if_pos (by omega), show 9 + D.size + S.size + (textK nt + nt) = n - z by omega]
    · rw [if_neg hq, if_neg (by omega)]
  · obtain rfl : G = [] := List.length_eq_zero_iff.1 hg
    have hk0 : k ≠ 0 ∧ k ≠ 3 ∧ k ≠ 4 ∧ k ≠ 5 ∧ k < 3 := by omega
    rw [if_pos hk0.2.2.2.2]
    unfold hputS at h hn
    rw [if_neg hk0.2.2.1, if_neg hk0.2.1, if_neg hk0.2.2.2.1, if_neg hk0.1] at h hn
    simp only [size_append, pre_size, lenS_size, low_size] at hn
    rw [got_hand h hk (n + m) hD hS (by omega) hw.2 h0 h1 (by omega) (by omega) (by omega)]
    have et : strOf tf 0 = ⟨#[]⟩ := rfl
    rw [et]
    by_cases hq : l ≤ (z : Int) + m
    · rw [if_pos hq, if_pos (by omega), show 9 + D.size + S.size = n - z by omega]
    · rw [if_neg hq, if_neg (by omega)]
  · obtain rfl : G = [] := List.length_eq_zero_iff.1 hg
    rw [if_neg (by omega), if_neg (by omega)]
    unfold hputS at h hn
    rw [if_neg (by omega), if_pos rfl] at h hn
    simp only [size_append, pre_size, strOf_size] at hn
    have := hm (.inl rfl)
    subst this
    rw [got_retry h (n + 0) hD hS (by omega) hw.2 hnt (by omega)]
    rfl
  · obtain rfl : G = [] := List.length_eq_zero_iff.1 hg
    rw [if_neg (by omega), if_pos rfl]
    unfold hputS at h hn
    rw [if_pos rfl] at h hn
    simp only [size_append, low_size] at hn
    rw [gotS_short h (n + m) hD (by omega) (by omega) (by omega), show 1 + D.size = n - z by omega]
    have eS : S = ⟨#[]⟩ := by
      have := bx_str S
      rw [hs] at this
      exact this.symm
    rw [eS]
    rfl
  · have hG0 : G ≠ [] := fun e => hg (by rw [e]; rfl)
    rw [if_neg (by omega), if_neg (by omega)]
    unfold hputS at h hn
    rw [if_neg (by omega), if_neg (by omega), if_pos rfl] at h hn
    rw [fours_size, pre_size] at hn
    have := hm (.inr rfl)
    subst this
    rw [got_list h (n + 0) hD hS hGw hG0 hG1 (by omega)]
    rfl
end Go.Proofs.YtcgbhcmgddgheaaDoor
namespace Go.Proofs.YtcgbhcmgddgheaaDoor
open Go Go.RowKit Go.BigFrame
set_option linter.unusedSimpArgs false
set_option linter.unusedVariables false
set_option maxRecDepth 100000
theorem numG_eqv (f g : Nat → BitVec 8) : ∀ s, (∀ i, i < s → f i = g i) → numG f s = numG g s
  | 0, _ => rfl
  | s + 1, h => by
    unfold numG
    rw [numG_eqv f g s (fun i hi => h i (by omega)), h s (by omega)]
theorem Front.swap {F G : Nat → BitVec 8} {first first' v : Int} {D S : ByteArray} (h : Front F first v D S) (h0 : G 0 = BitVec.ofInt 8 first') (hg : ∀ i, 1 ≤ i → i < 7 + D.size + S.size → G i = F i) : Front G first' v D S :=
  ⟨h0, by rw [← h.v4, numG_eqv _ _ 4 (fun i hi => hg (1 + i) (by omega) (by omega))], by rw [hg 5 (by omega) (by omega)]; exact h.nd,
    ((strOf_eq _ _ _).2 (fun i hi => hg (6 + i) (by omega) (by omega))).trans h.d, by rw [hg (6 + D.size) (by omega) (by omega)]; exact h.ns,
    ((strOf_eq _ _ _).2 (fun i hi => hg (7 + D.size + i) (by omega) (by omega))).trans h.s⟩
theorem front_getP8 {F : Nat → BitVec 8} {first v : Int} {D S : ByteArray} (h : Front F first v D S) (len : Nat) (hD : D.size ≤ 20) (hS : S.size ≤ 20) (hl : 7 + D.size + S.size ≤ len) (kd : Nat) (hn : 192 ≤ (F 0).toNat ∧ (F 0).toNat / 16 % 4 = kd) (own : Int) (ho : 0 ≤ own ∧ own ≤ 20) :
    getP F len own = longKind F len kd (numG (fun i => F (1 + i)) 4) D S (7 + D.size + S.size) 0 := by
  rw [getP_long ho (by omega) (by omega) (.inl hn.1), h.long len hD hS hl, kind4, hn.2]
theorem ofInt_nat (n : Nat) : BitVec.ofInt 8 (n : Int) = BitVec.ofNat 8 n := BitVec.eq_of_toNat_eq (by rw [BitVec.toNat_ofInt, BitVec.toNat_ofNat]; omega)
theorem ofInt_toNat (x : BitVec 8) : BitVec.ofInt 8 (x.toNat : Int) = x := by rw [ofInt_nat]; simp
theorem low_bits : ∀ k, k < 3 → ∀ z, z < 5 → 1 ≤ z → ∀ n : Nat, n < 256 → 192 ≤ (BitVec.ofNat 8 (191 + 16 * k + z) ^^^ (BitVec.ofNat 8 n &&& 15#8)).toNat ∧ (BitVec.ofNat 8 (191 + 16 * k + z) ^^^ (BitVec.ofNat 8 n &&& 15#8)).toNat / 16 % 4 = k := by decide +kernel
theorem first_bits {k : Int} {z : Nat} {ph : Bool} (hk : k = 0 ∨ k = 1 ∨ k = 2) (hz1 : 1 ≤ z) (hz : z ≤ 4) (low : BitVec 8) : 192 ≤ (BitVec.ofInt 8 (firstN k z ph) ^^^ (low &&& 15#8)).toNat ∧ (BitVec.ofInt 8 (firstN k z ph) ^^^ (low &&& 15#8)).toNat / 16 % 4 = k.toNat := by
  have e : firstN k z ph = ((191 + 16 * k.toNat + z : Nat) : Int) := by unfold firstN; rw [if_neg (by omega), if_neg (by omega), if_neg (by omega)]; omega
  have e2 : BitVec.ofInt 8 (((191 + 16 * k.toNat + z : Nat) : Int)) = BitVec.ofNat 8 (191 + 16 * k.toNat + z) := ofInt_nat _
  have h := low_bits k.toNat (by omega) z (by omega) hz1 low.toNat low.isLt
  rw [e, e2]
  rw [show BitVec.ofNat 8 low.toNat = low by simp] at h
  exact h
/-- What Put made, its first byte's lowest bits turned, with bytes behind: Get tells it. -/
theorem got_row (k v l N : Int) (z : Nat) (D S : ByteArray) (tf : Nat → BitVec 8) (ph : Bool) (hk : k = 0 ∨ k = 1 ∨ k = 2) (hin : inB [] D.size S.size 0 v l N (z : Int)) (hf : inF k v l N (z : Int) S.size 0 0 ph) (X : ByteArray) (n : Nat)
    (hX : hputS k v D S tf 0 l N z ph [] = X) (hn : X.size = n) (low : BitVec 8) (F : Nat → BitVec 8) (hF0 : F 0 = bx X 0 ^^^ (low &&& 15#8)) (hF : ∀ i, 1 ≤ i → i < n → F i = bx X i) (len : Nat) (hl : l = (z : Int) + 5) (hlen : n + 5 ≤ len) (own : Int) (ho : 0 ≤ own ∧ own ≤ 20) :
    getP F len own = ⟨k, v, D, S, ⟨#[]⟩, l, [], n - z, n - z + (z + 5), 0⟩ := by
  obtain ⟨_, _, hD, hS, _, hw, ⟨h0, h1⟩, hN, hz⟩ := hin
  have hw : 0 ≤ v ∧ v < 4294967296 := by unfold word32 at hw; omega
  have hsg : Sg (bx X) 0 X := fun i hi => by rw [Nat.zero_add]
  have hz1 : 1 ≤ z ∧ v ≠ 0 := by rcases hf with h | h | h | h | h <;> omega
  have hbits := first_bits (ph := ph) hk hz1.1 (by omega) low
  have hsh : ∀ o (Y : ByteArray), 1 ≤ o → o + Y.size ≤ n → Sg (bx X) o Y → Sg F o Y := fun o Y h1 h2 h i hi => by rw [hF (o + i) (by omega) (by omega)]; exact h i hi
  unfold hputS at hX
  rw [if_neg (by omega), if_neg (by omega), if_neg (by omega)] at hX
  have l5 : l.toNat = z + 5 := by omega
  rcases hk with rfl | hk
  · rw [if_pos rfl] at hX
    have hs := hsg
    rw [← hX] at hs
    have hx0 := hs.left.left.left
    have hfr := front_of hx0 hw.1 hw.2 hD hS
    rw [hX] at hfr hs
    have hsz := congrArg ByteArray.size hX
    simp only [size_append, pre_size, tok_size, lenS_size, low_size] at hsz
    rw [hn] at hsz
    have htk : textK 0 = 1 := by decide +kernel
    have hb0 : bx X 0 = BitVec.ofInt 8 (firstN 0 z ph) := hfr.f0
    rw [hb0] at hF0
    have hfF : Front F ((BitVec.ofInt 8 (firstN 0 z ph) ^^^ (low &&& 15#8)).toNat : Int) v D S := hfr.swap (by rw [hF0, ofInt_toNat]) (fun i hi1 hi2 => hF i hi1 (by omega))
    rw [← hX] at hs
    have ht := hs.left.left.right
    have e1 := hs.left.right
    have e2 := hs.right
    simp only [size_append, pre_size, tok_size, lenS_size, Nat.zero_add] at ht e1 e2
    rw [hX] at ht e1 e2
    have ht := hsh _ _ (by omega) (by rw [tok_size]; omega) ht
    have e1 := hsh _ _ (by omega) (by rw [lenS_size]; omega) e1
    have e2 := hsh _ _ (by omega) (by rw [low_size]; omega) e2
    have h2 : Sg F (7 + D.size + S.size + (textK 0 + 0)) (lenS l ++ lowS N z) := e1.join (by rw [lenS_size]; exact e2)
    have hv := hfF.v4
    have hV : numG (fun i => F (1 + i)) 4 ≠ 0 := by omega
    have hnum := num_at (fun i => F (7 + D.size + S.size + i)) (len - (7 + D.size + S.size)) (BitVec.ofNat 64 0) (least (BitVec.ofNat 64 0)) (least_lt _) (least_fits _ (by simp)) (by show textK 0 ≤ _; omega) (fun i hi => by
      have := ht.at i (by show i < textK 0 + 0; have : i < textK 0 := hi; omega)
      rw [this]
      show joinb _ (textK 0) tf i = _
      unfold joinb
      rw [if_pos (show i < textK 0 from hi)])
    obtain ⟨a1, a2, a3⟩ := hnum
    have a2 : getV (fun i => F (7 + D.size + S.size + i)) (len - (7 + D.size + S.size)) = 0 := by rw [a2]; simp
    have a3 : getK (fun i => F (7 + D.size + S.size + i)) (len - (7 + D.size + S.size)) = textK 0 := a3
    rw [front_getP8 hfF len hD hS (by omega) 0 (by rw [hF0]; exact hbits) own ho, lk_0_ok hV a1 (by omega) (by rw [a2, a3]; omega), a2, a3]
    rw [show 7 + D.size + S.size + textK 0 + 0 = 7 + D.size + S.size + (textK 0 + 0) by omega, got_cnt h2 h0 h1 len _ _ D S _ (by omega), hv, if_pos (by omega), l5]
    rw [show 7 + D.size + S.size + (textK 0 + 0) + 2 = n - z by omega]
    rfl
  · rw [if_neg (by omega)] at hX
    have hs := hsg
    rw [← hX] at hs
    have hx0 := hs.left.left
    have hfr := front_of hx0 hw.1 hw.2 hD hS
    rw [hX] at hfr hs
    have hsz := congrArg ByteArray.size hX
    simp only [size_append, pre_size, lenS_size, low_size] at hsz
    rw [hn] at hsz
    have hb0 : bx X 0 = BitVec.ofInt 8 (firstN k z ph) := hfr.f0
    rw [hb0] at hF0
    have hfF : Front F ((BitVec.ofInt 8 (firstN k z ph) ^^^ (low &&& 15#8)).toNat : Int) v D S := hfr.swap (by rw [hF0, ofInt_toNat]) (fun i hi1 hi2 => hF i hi1 (by omega))
    rw [← hX] at hs
    have e1 := hs.left.right
    have e2 := hs.right
    simp only [size_append, pre_size, lenS_size, Nat.zero_add] at e1 e2
    rw [hX] at e1 e2
    have e1 := hsh _ _ (by omega) (by rw [lenS_size]; omega) e1
    have e2 := hsh _ _ (by omega) (by rw [low_size]; omega) e2
    have h2 : Sg F (7 + D.size + S.size) (lenS l ++ lowS N z) := e1.join (by rw [lenS_size]; exact e2)
    have hv := hfF.v4
    have hV : numG (fun i => F (1 + i)) 4 ≠ 0 := by omega
    rw [front_getP8 hfF len hD hS (by omega) k.toNat (by rw [hF0]; exact hbits) own ho]
    rcases hk with rfl | rfl
    · rw [lk_other hV (by omega) (by omega), got_cnt h2 h0 h1 len _ _ D S _ (by omega), hv, if_pos (by omega), l5, show 7 + D.size + S.size + 2 = n - z by omega]
      rfl
    · rw [lk_other hV (by omega) (by omega), got_cnt h2 h0 h1 len _ _ D S _ (by omega), hv, if_pos (by omega), l5, show 7 + D.size + S.size + 2 = n - z by omega]
      rfl
end Go.Proofs.YtcgbhcmgddgheaaDoor
namespace Go.Proofs.YtcgbhcmgddgheaaDoor
open Go Go.RowKit Go.BigFrame
set_option linter.unusedSimpArgs false
set_option linter.unusedVariables false
set_option maxRecDepth 100000
structure PRow where
  k : Int
  v : Int
  D : ByteArray
  S : ByteArray
  z : Nat
  n : Nat
  a : Option Addr
  c : Nat
  X : ByteArray
def PRow.ok (r : PRow) : Prop := (r.k = 0 ∨ r.k = 1 ∨ r.k = 2) ∧ (∃ (N : Int) (tf : Nat → BitVec 8), inB [] r.D.size r.S.size 0 r.v ((r.z : Int) + 5) N (r.z : Int) ∧ inF r.k r.v ((r.z : Int) + 5) N (r.z : Int) r.S.size 0 0 false ∧ hputS r.k r.v r.D r.S tf 0 ((r.z : Int) + 5) N r.z false [] = r.X) ∧ r.X.size = r.n ∧ r.z < r.n ∧ r.n ≤ 3000
def PRow.cells (r : PRow) : Array Value := hdC r.k r.v r.D r.S ⟨#[]⟩ ((r.z : Int) + 5) 0 0 false (.slice r.a 0 r.c)
def segF (low : BitVec 8) (r : PRow) (i : Nat) : BitVec 8 := if i = 0 then bx r.X 0 ^^^ (low &&& 15#8) else if i < r.n then bx r.X i else BitVec.ofNat 8 (i - r.n + 1)
def totR : List PRow → Nat
  | [] => 0
  | r :: l => r.n + 5 + totR l
def catR (low : BitVec 8) : List PRow → Nat → BitVec 8
  | [], _ => 0#8
  | r :: l, i => if i < r.n + 5 then segF low r i else catR low l (i - (r.n + 5))
def atR (s : Nat) : List PRow → List Int
  | [] => []
  | r :: l => ((s : Int) + r.n - r.z) :: atR (s + (r.n + 5)) l
def hadC (l : List PRow) : List Value := (l.map (fun r => r.cells.toList)).flatten
theorem totR_snoc : ∀ (l : List PRow) (r : PRow), totR (l ++ [r]) = totR l + (r.n + 5)
  | [], r => by simp [totR]
  | x :: l, r => by rw [List.cons_append, totR, totR, totR_snoc l r]; omega
theorem catR_snoc (low : BitVec 8) : ∀ (l : List PRow) (r : PRow) (i : Nat), i < totR l + (r.n + 5) → catR low (l ++ [r]) i = if i < totR l then catR low l i else segF low r (i - totR l)
  | [], r, i, h => by
    have h : i < r.n + 5 := by simpa [totR] using h
    show (if i < r.n + 5 then segF low r i else catR low [] (i - (r.n + 5))) = _
    rw [if_pos h, if_neg (show ¬ i < totR [] from Nat.not_lt_zero i)]
    rfl
  | x :: l, r, i, h => by
    have e : totR (x :: l) = x.n + 5 + totR l := rfl
    rw [e] at h
    show (if i < x.n + 5 then segF low x i else catR low (l ++ [r]) (i - (x.n + 5))) = if i < totR (x :: l) then (if i < x.n + 5 then segF low x i else catR low l (i - (x.n + 5))) else segF low r (i - totR (x :: l))
    by_cases hx : i < x.n + 5
    · rw [if_pos hx, if_pos (by omega), if_pos hx]
    · rw [if_neg hx, catR_snoc low l r _ (by omega)]
      by_cases hl : i - (x.n + 5) < totR l
      · rw [if_pos hl, if_pos (by omega), if_neg hx]
      · rw [if_neg hl, if_neg (by omega), e, show i - (x.n + 5) - totR l = i - (x.n + 5 + totR l) by omega]
theorem atR_snoc : ∀ (l : List PRow) (r : PRow) (s : Nat), atR s (l ++ [r]) = atR s l ++ [((s + totR l : Nat) : Int) + r.n - r.z]
  | [], r, s => by simp [atR, totR]
  | x :: l, r, s => by
    rw [List.cons_append, atR, atR_snoc l r, atR, totR, show s + (x.n + 5) + totR l = s + (x.n + 5 + totR l) by omega]
    rfl
theorem atR_len : ∀ (l : List PRow) (s : Nat), (atR s l).length = l.length
  | [], _ => rfl
  | _ :: l, s => by rw [atR, List.length_cons, List.length_cons, atR_len l]
theorem totR_take : ∀ (l : List PRow) (j : Nat) (h : j < l.length), totR (l.take (j + 1)) = totR (l.take j) + (l[j].n + 5) ∧ totR (l.take j) + (l[j].n + 5) ≤ totR l
  | x :: l, 0, h => by simp [totR]
  | x :: l, j + 1, h => by
    obtain ⟨h1, h2⟩ := totR_take l j (by simpa using h)
    simp only [List.take_succ_cons, totR, List.getElem_cons_succ] at h1 h2 ⊢
    constructor
    · rw [h1]; omega
    · omega
theorem catR_at (low : BitVec 8) : ∀ (l : List PRow) (j : Nat) (h : j < l.length) (i : Nat), i < l[j].n + 5 → catR low l (totR (l.take j) + i) = segF low l[j] i
  | x :: l, 0, h, i, hi => by
    simp only [List.take_zero, totR, catR, List.getElem_cons_zero, Nat.zero_add] at hi ⊢
    rw [if_pos hi]
  | x :: l, j + 1, h, i, hi => by
    simp only [List.take_succ_cons, totR, catR, List.getElem_cons_succ] at hi ⊢
    rw [if_neg (by omega), show x.n + 5 + totR (l.take j) + i - (x.n + 5) = totR (l.take j) + i by omega]
    exact catR_at low l j (by simpa using h) i hi
theorem atR_at : ∀ (l : List PRow) (j : Nat) (h : j < l.length) (s : Nat), (atR s l)[j]'(by rw [atR_len]; exact h) = ((s + totR (l.take j) : Nat) : Int) + l[j].n - l[j].z
  | x :: l, 0, h, s => by simp [atR, totR]
  | x :: l, j + 1, h, s => by
    simp only [atR, List.getElem_cons_succ, List.take_succ_cons, totR]
    rw [atR_at l j (by simpa using h)]
    omega
theorem cells_len (r : PRow) : r.cells.toList.length = 10 := rfl
theorem hadC_snoc (l : List PRow) (r : PRow) : hadC (l ++ [r]) = hadC l ++ r.cells.toList := by unfold hadC; simp
theorem hadC_len : ∀ l : List PRow, (hadC l).length = l.length * 10
  | [] => rfl
  | x :: l => by
    have h := hadC_len l
    unfold hadC at h ⊢
    rw [List.map_cons, List.flatten_cons, List.length_append, cells_len, h, List.length_cons]
    omega
theorem hadC_at : ∀ (l : List PRow) (j q : Nat) (h : j < l.length), q < 10 → (hadC l)[10 * j + q]? = l[j].cells.toList[q]?
  | x :: l, 0, q, h, hq => by
    unfold hadC
    rw [List.map_cons, List.flatten_cons, List.getElem?_append_left (by rw [cells_len]; omega)]
    simp
  | x :: l, j + 1, q, h, hq => by
    have ih := hadC_at l j q (by simpa using h) hq
    unfold hadC at ih ⊢
    rw [List.map_cons, List.flatten_cons, List.getElem?_append_right (by rw [cells_len]; omega), cells_len, show 10 * (j + 1) + q - 10 = 10 * j + q by omega, ih]
    rfl
/-- Get of what is left from the j-th packet on. -/
theorem row_get (low : BitVec 8) (l : List PRow) (hok : ∀ r ∈ l, r.ok) (j : Nat) (h : j < l.length) :
    getP (fun i => catR low l (totR (l.take j) + i)) (totR l - totR (l.take j)) 8 = ⟨l[j].k, l[j].v, l[j].D, l[j].S, ⟨#[]⟩, (l[j].z : Int) + 5, [], l[j].n - l[j].z, l[j].n - l[j].z + (l[j].z + 5), 0⟩ := by
  obtain ⟨hk, ⟨N, tf, hin, hf, hX⟩, hn, hz, h3⟩ := hok _ (List.getElem_mem h)
  have ht := totR_take l j h
  have hat := catR_at low l j h
  generalize l[j] = r at *
  refine got_row r.k r.v ((r.z : Int) + 5) N r.z r.D r.S tf false hk hin hf r.X r.n hX hn low _ ?_ ?_ _ rfl (by omega) 8 (by omega)
  · rw [hat 0 (by omega)]; unfold segF; rw [if_pos rfl]
  · intro i h1 h2
    rw [hat i (by omega)]; unfold segF; rw [if_neg (by omega), if_pos h2]
end Go.Proofs.YtcgbhcmgddgheaaDoor
namespace Go.Proofs.YtcgbhcmgddgheaaDoor
open Go Go.RowKit Go.BigFrame
set_option linter.unusedSimpArgs false
set_option linter.unusedVariables false
set_option maxRecDepth 100000
theorem OwnS.conv {B : Nat} {v : Value} {S : ByteArray} {w : World} (h : OwnS B v S w) : (convert 26 9 v).run Tryd.prog w = .ok (.string S) w := by
  obtain ⟨n, f, ho, rfl⟩ := h
  exact (bytesAre_own ho).now
set_option maxHeartbeats 8000000 in
theorem puts_any (k v l N z : Int) (D S : ByteArray) (tf : Nat → BitVec 8) (nt : Nat) (ph : Bool) (a : Option Addr) (c : Nat) (G : List Int) (w : World) (hL : IntsIn w (.slice a G.length c) G) (hG : G.length ≤ 20000000000000) (tab : Tab w) :
    Calls Tryd.prog 9 #[.agg (hdC k v D S (strOf tf nt) l N z ph (.slice a G.length c))] w fun e w' => e = .returned (.bool true) ∧ Below w.heap.size w w' := by
  -- what both tell
  obtain ⟨X, E, DP, PP⟩ : ∃ (X : ByteArray) (E : Int), (∀ w', Below w.heap.size w w' → Calls Tryd.prog 32 #[.agg (hdC k v D S (strOf tf nt) l N z ph (.slice a G.length c))] w' fun e w'' => e = .returned (.tuple #[.string X, .int .i64 E]) ∧ Below w'.heap.size w' w'') ∧
      (∀ (w' : World) (L' : Value), IntsIn w' L' G → Tab w' → Calls Tryd.prog 33 #[.agg (hdC k v D S (strOf tf nt) l N z ph L')] w' fun e w'' => ∃ b, e = .returned (.tuple #[b, .int .i64 E]) ∧ BytesAre b X w'' ∧ Below w'.heap.size w' w'') := by
    by_cases hr : inB G D.size S.size nt v l N z ∧ inF k v l N z S.size nt G.length ph
    · obtain ⟨zn, rfl⟩ : ∃ zn : Nat, z = (zn : Int) := ⟨z.toNat, by have := hr.1.2.2.2.2.2.2.2.2; omega⟩
      refine ⟨hputS k v D S tf nt l N zn ph G, 0, fun w' hb => docPut_ok k v l N zn D S tf nt ph a c G w' (hL.later hb) hr.1 hr.2, fun w' L' hL' t => ?_⟩
      obtain ⟨a', c', rfl, _⟩ := hL'.at_
      refine (put_ok k v l N zn D S tf nt ph a' c' G w' hL' hr.1 hr.2 t).mono ?_
      rintro e w'' ⟨b, rfl, ⟨n, f, ho, e2⟩, hb⟩
      exact ⟨b, rfl, by rw [e2]; exact bytesAre_own ho, hb⟩
    · refine ⟨⟨#[]⟩, 2, fun w' hb => docPut_bad k v l N z D S (strOf tf nt) D.size S.size nt rfl rfl (strOf_size _ _) ph a c G w' (hL.later hb) hr, fun w' L' hL' t => ?_⟩
      obtain ⟨a', c', rfl, _⟩ := hL'.at_
      refine (put_bad k v l N z D S (strOf tf nt) D.size S.size nt rfl rfl (strOf_size _ _) ph a' c' G w' hL' hr).mono ?_
      rintro e w'' ⟨rfl, hb⟩
      exact ⟨_, rfl, bytesAre_nil _, hb⟩
  have DPH := Lib.hid DP
  have PPH := Lib.hid PP
  have TO := Lib.hid (fun (w' : World) (h : IntsIn w' (.slice a G.length c) G) => to_any k v l N z D S (strOf tf nt) ph a c G w' h hG)
  have HL := Lib.hid hL
  have TB := Lib.hid tab
  clear DP PP hL tab
  generalize strOf tf nt = T at *
  unfold hdC at DPH TO PPH ⊢
  go_enter Tryd.func9, Tryd.ntmps9
  have row := heap_alloc_last w (.cells #[.int .i64 k, .int .i64 v, .string D, .string S, .string T, .int .i64 l, .int .i64 N, .int .i64 z, .bool ph, .slice a G.length c] 63)
  have bel := (Below.refl w.heap.size w).alloc (Nat.le_refl _) (.cells #[.int .i64 k, .int .i64 v, .string D, .string S, .string T, .int .i64 l, .int .i64 N, .int .i64 z, .bool ph, .slice a G.length c] 63)
  go_upto_region 1 with (fail)
  generalize w.alloc _ = wa at *
  have ROW := Lib.hid row
  have BEL := Lib.hid bel
  have CX := Lib.hid (fun (w' : World) (hb : Below wa.heap.size wa w') => cells10 ((hb.block _ (lt_row ROW.out)).trans ROW.out))
  clear row bel
  obtain ⟨c0, c1, c2, c3, c4, c5, c6, c7, c8, c9⟩ := CX.out wa (Below.refl _ _)
  go_wp2_with fail
  with_reducible refine (DPH.out wa BEL.out).mono ?_
  rintro e w1 ⟨rfl, hb1⟩
  have H1 := Lib.hid hb1
  clear hb1 c0 c1 c2 c3 c4 c5 c6 c7 c8 c9
  obtain ⟨c0, c1, c2, c3, c4, c5, c6, c7, c8, c9⟩ := CX.out w1 H1.out
  go_wp2_with fail
  with_reducible refine (TO.out w1 (HL.out.later (BEL.out.trans (H1.out.mono BEL.out.size)))).mono ?_
  rintro e w2 ⟨L', rfl, hL2, hb2⟩
  have H2 := Lib.hid (H1.out.trans (hb2.mono H1.out.size))
  have L2 := Lib.hid hL2
  clear hb2 hL2 c0 c1 c2 c3 c4 c5 c6 c7 c8 c9
  go_wp2_with fail
  with_reducible refine (PPH.out w2 L' L2.out (TB.out.later (BEL.out.trans (H2.out.mono BEL.out.size)))).mono ?_
  rintro e w3 ⟨b, rfl, hba, hb3⟩
  have H3 := Lib.hid (H2.out.trans (hb3.mono H2.out.size))
  have BA := Lib.hid hba
  clear hba hb3
  go_wp2_with fail
  with_reducible refine (heads_any w3).mono ?_
  rintro e w4 ⟨rfl, hb4⟩
  have cv := (BA.out.later hb4).now
  have H4 := Lib.hid (BEL.out.trans ((H3.out.trans (hb4.mono H3.out.size)).mono BEL.out.size))
  clear hb4
  go_wp2_with fail
  go_ret
  exact ⟨by simp, H4.out⟩
end Go.Proofs.YtcgbhcmgddgheaaDoor
namespace Go.Proofs.YtcgbhcmgddgheaaDoor
open Go Go.RowKit Go.ChangeShapes Go.WideShapes
theorem okWide_agg {P : Program} {w : World} {base : Nat} {t : TypeId} {v : Value} (h : (match P.underlying t with | some (.struct _) | some (.array _ _) => true | _ => false) = true) (hk : Value.okWide P w .any base t v) :
    ∃ cs, v = .agg cs ∧ cs.size = P.cellsOf t := by
  unfold Value.okWide at hk
  split at hk
  · obtain ⟨cs, h1, h2, _⟩ := hk; exact ⟨cs, h1, h2⟩
  · obtain ⟨cs, h1, h2, _⟩ := hk; exact ⟨cs, h1, h2⟩
  · rename_i h1 h2
    revert h
    split
    · rename_i f hf; exact absurd hf (h1 f)
    · rename_i a b hf; exact absurd hf (h2 a b)
    · intro h; cases h
/-- The bytes of an array's reading. -/
theorem trod_bytes {H : Type} {enc : TypeId × Value → H} {P : Program} {w : World} {base : Nat} {spare : Nat → Bool} {held : Bool} {fuel : Nat} {t e : TypeId} {n : Nat} {cs : List Value} {x : DataW H × List MemPlace}
    (ht : P.underlying t = some (.array n e)) (he : P.underlying e = some (.int .u8)) (hc : P.cellsOf e = 1) (h : DataW.trod enc P w base spare held fuel t cs = some x) :
    ∃ f : Nat → BitVec 8, ∀ i, i < n → cs[i]? = some (.int .u8 (n8 (f i))) := by
  obtain ⟨xs, m, _, _, _, hl, hf⟩ := DataW.trod_array ht h
  have key : ∀ i, i < n → ∃ z : Int, cs[i]? = some (.int .u8 z) ∧ (Lit.int .u8 z).wf = true := fun i hi => by
    have h1 := hf i hi
    rw [hc, Nat.mul_one, List.getElem?_eq_getElem (by omega)] at h1
    obtain ⟨z, h2, _, h3⟩ := DataW.trod_int he h1
    refine ⟨z, ?_, h3⟩
    have h4 : ((cs.drop i).take 1)[0]? = some (.int .u8 z) := by rw [h2]; rfl
    simpa using h4
  refine ⟨fun i => match cs[i]? with | some (.int _ z) => BitVec.ofInt 8 z | _ => 0#8, fun i hi => ?_⟩
  obtain ⟨z, h1, h2⟩ := key i hi
  simp only [h1]
  rw [← n8_of_wf z h2]
theorem bits_nat_eq (n : Nat) (h : n ≤ maxLen) : n ≤ 9223372036854775807 := by unfold maxLen at h; omega
end Go.Proofs.YtcgbhcmgddgheaaDoor
namespace Go.Proofs.YtcgbhcmgddgheaaDoor
open Go Go.RowKit Go.ChangeShapes Go.WideShapes
set_option linter.unusedSimpArgs false
set_option linter.unusedVariables false
set_option maxRecDepth 100000
theorem open_ints_at {H : Type} {enc : TypeId × Value → H} {w : World} {fuel : Nat} {c : Value} {y : DataW H × List MemPlace} (h : DataW.trod enc Tryd.prog w 0 (fun _ => true) true fuel 56 [c] = some y) :
    ∃ a cap G, c = .slice a G.length cap ∧ IntsIn w (.slice a G.length cap) G ∧ ∀ R : Nat, (∀ n ∈ DataW.weights Tryd.prog 56 y.1, n ≤ R) → G.length * 8 ≤ R := by
  rcases open_ints Tryd.underlying56 Tryd.underlying3 (by kernel_rfl) h with ⟨hcs, hy⟩ | ⟨x, l, cp, zs, hcs, _, hl, hm, hz, hy, hcell, hwz⟩
  · obtain rfl : c = .slice none 0 0 := by simpa using hcs
    exact ⟨none, 0, [], rfl, ⟨none, 0, rfl, ⟨Nat.le_refl _, Nat.zero_le _⟩, fun i hi => by simp at hi⟩, fun _ _ => Nat.zero_le _⟩
  · obtain rfl : c = .slice (some x) l cp := by simpa using hcs
    have hz' : zs.length = cp := by simpa using hz
    have hlen : (zs.take l).length = l := by rw [List.length_take]; omega
    refine ⟨some x, cp, zs.take l, by rw [hlen], ⟨some x, cp, rfl, ⟨by rw [hlen]; exact hl, hm⟩, fun i hi => ?_⟩, fun R hR => ?_⟩
    · rw [hlen] at hi
      obtain ⟨b, off, spot⟩ := x
      have hc := hcell i (by omega)
      have hspot : spot = none := by simpa [Addr.add] using World.cell?_spot (hcell 0 (by omega))
      subst hspot
      rw [Go.WideShapes.add_plain] at hc
      refine ⟨b, off, rfl, ?_, ?_⟩
      · have := World.block_lt_of_cell? w _ hc
        simpa using this
      · rw [hc]
        congr 2
        simp [List.getElem_take, List.getD_eq_getElem?_getD, List.getElem?_eq_getElem (show i < zs.length by omega)]
    · subst hy
      have h1 := hR (((lits .i64 (zs.take l)).length + (lits .i64 (zs.drop l)).length) * Tryd.prog.bytesOf 3) (by
        rw [DataW.weights, Tryd.underlying56]
        exact List.mem_cons_self)
      rw [show Tryd.prog.bytesOf 3 = 8 by kernel_rfl] at h1
      simp only [lits, List.length_map, List.length_take, List.length_drop] at h1
      rw [hlen]
      omega
theorem open_header {H : Type} {enc : TypeId × Value → H} {w : World} {base : Nat} {v : Value} {d : DataW H} {p : List MemPlace} (hk : Value.okWide Tryd.prog w .any base 63 v)
    (h : DataW.Trod enc Tryd.prog w 0 (fun _ => true) true 63 v d p) (hz : ∀ n ∈ DataW.weights Tryd.prog 63 d, n ≤ reachBytes) :
    ∃ k vv l N z D S tf nt ph a c G, v = .agg (hdC k vv D S (strOf tf nt) l N z ph (.slice a G.length c)) ∧ IntsIn w (.slice a G.length c) G ∧ G.length ≤ 20000000000000 := by
  obtain ⟨cs, rfl, hs⟩ := okWide_agg (by kernel_rfl) hk
  have hs10 : cs.size = 10 := hs.trans (by kernel_rfl)
  obtain ⟨fuel, hf⟩ := h
  obtain ⟨xs, n, _, hd, _, hl, hx⟩ := DataW.trod_struct Tryd.underlying63 hf
  match xs, hl with
  | [y0, y1, y2, y3, y4, y5, y6, y7, y8, y9], _ =>
    obtain rfl : d = .agg [y0.1, y1.1, y2.1, y3.1, y4.1, y5.1, y6.1, y7.1, y8.1, y9.1] := by
      have := congrArg Prod.fst hd
      simpa using this
    have hw : ∀ n ∈ DataW.weights Tryd.prog 56 y9.1, n ≤ reachBytes := fun n hn => hz n (by
      rw [DataW.weights, Tryd.underlying63]
      exact DataW.weights_mem_each (j := 9) (t := 56) (d := y9.1) rfl rfl n hn)
    match cs, hs10 with
    | ⟨[v0, v1, v2, v3, v4, v5, v6, v7, v8, v9]⟩, _ =>
      have g0 : DataW.trod enc Tryd.prog w 0 (fun _ => true) true n 3 [v0] = some y0 := hx 0 _ rfl
      have g1 : DataW.trod enc Tryd.prog w 0 (fun _ => true) true n 3 [v1] = some y1 := hx 1 _ rfl
      have g2 : DataW.trod enc Tryd.prog w 0 (fun _ => true) true n 9 [v2] = some y2 := hx 2 _ rfl
      have g3 : DataW.trod enc Tryd.prog w 0 (fun _ => true) true n 9 [v3] = some y3 := hx 3 _ rfl
      have g4 : DataW.trod enc Tryd.prog w 0 (fun _ => true) true n 9 [v4] = some y4 := hx 4 _ rfl
      have g5 : DataW.trod enc Tryd.prog w 0 (fun _ => true) true n 3 [v5] = some y5 := hx 5 _ rfl
      have g6 : DataW.trod enc Tryd.prog w 0 (fun _ => true) true n 3 [v6] = some y6 := hx 6 _ rfl
      have g7 : DataW.trod enc Tryd.prog w 0 (fun _ => true) true n 3 [v7] = some y7 := hx 7 _ rfl
      have g8 : DataW.trod enc Tryd.prog w 0 (fun _ => true) true n 4 [v8] = some y8 := hx 8 _ rfl
      have g9 : DataW.trod enc Tryd.prog w 0 (fun _ => true) true n 56 [v9] = some y9 := hx 9 _ rfl
      have ui : Tryd.prog.underlying 3 = some (.int .i64) := by kernel_rfl
      have us : Tryd.prog.underlying 9 = some .string := by kernel_rfl
      obtain ⟨k, e0, _, _⟩ := DataW.trod_int ui g0
      obtain ⟨vv, e1, _, _⟩ := DataW.trod_int ui g1
      obtain ⟨D, e2, _, _⟩ := DataW.trod_string us g2
      obtain ⟨S, e3, _, _⟩ := DataW.trod_string us g3
      obtain ⟨T, e4, _, _⟩ := DataW.trod_string us g4
      obtain ⟨l, e5, _, _⟩ := DataW.trod_int ui g5
      obtain ⟨N, e6, _, _⟩ := DataW.trod_int ui g6
      obtain ⟨z, e7, _, _⟩ := DataW.trod_int ui g7
      obtain ⟨ph, e8, _⟩ := DataW.trod_bool (show Tryd.prog.underlying 4 = some .bool from by kernel_rfl) g8
      obtain ⟨a, c, G, rfl, hI, hR⟩ := open_ints_at g9
      simp only [List.cons.injEq, and_true] at e0 e1 e2 e3 e4 e5 e6 e7 e8
      subst e0 e1 e2 e3 e4 e5 e6 e7 e8
      obtain ⟨tf, ht⟩ := str_as T
      refine ⟨k, vv, l, N, z, D, S, tf, T.size, ph, a, c, G, by rw [← ht]; rfl, hI, ?_⟩
      have h8 := hR reachBytes hw
      have : reachBytes ≤ 160000000000000 := by decide
      omega
end Go.Proofs.YtcgbhcmgddgheaaDoor
namespace Go.Proofs.YtcgbhcmgddgheaaDoor
open Go Go.RowKit Go.ChangeShapes Go.WideShapes
set_option linter.unusedSimpArgs false
set_option linter.unusedVariables false
set_option maxRecDepth 100000
structure Hd where
  k : Int
  v : Int
  D : ByteArray
  S : ByteArray
  tf : Nat → BitVec 8
  nt : Nat
  l : Int
  N : Int
  z : Int
  ph : Bool
  a : Option Addr
  c : Nat
  G : List Int
instance : Inhabited Hd := ⟨⟨0, 0, ⟨#[]⟩, ⟨#[]⟩, fun _ => 0#8, 0, 0, 0, 0, false, none, 0, []⟩⟩
def Hd.cells (h : Hd) : Array Value := hdC h.k h.v h.D h.S (strOf h.tf h.nt) h.l h.N h.z h.ph (.slice h.a h.G.length h.c)
theorem open_header_at {H : Type} {enc : TypeId × Value → H} {w : World} {fuel : Nat} {cs : List Value} {y : DataW H × List MemPlace} (hs : cs.length = 10)
    (h : DataW.trod enc Tryd.prog w 0 (fun _ => true) true fuel 63 cs = some y) :
    ∃ r : Hd, cs = r.cells.toList ∧ IntsIn w (.slice r.a r.G.length r.c) r.G ∧ ∀ R : Nat, (∀ n ∈ DataW.weights Tryd.prog 63 y.1, n ≤ R) → r.G.length * 8 ≤ R := by
  obtain ⟨xs, n, _, hd, _, hl, hx⟩ := DataW.trod_struct Tryd.underlying63 h
  match xs, hl with
  | [y0, y1, y2, y3, y4, y5, y6, y7, y8, y9], _ =>
    match cs, hs with
    | [v0, v1, v2, v3, v4, v5, v6, v7, v8, v9], _ =>
      have g0 : DataW.trod enc Tryd.prog w 0 (fun _ => true) true n 3 [v0] = some y0 := hx 0 _ rfl
      have g1 : DataW.trod enc Tryd.prog w 0 (fun _ => true) true n 3 [v1] = some y1 := hx 1 _ rfl
      have g2 : DataW.trod enc Tryd.prog w 0 (fun _ => true) true n 9 [v2] = some y2 := hx 2 _ rfl
      have g3 : DataW.trod enc Tryd.prog w 0 (fun _ => true) true n 9 [v3] = some y3 := hx 3 _ rfl
      have g4 : DataW.trod enc Tryd.prog w 0 (fun _ => true) true n 9 [v4] = some y4 := hx 4 _ rfl
      have g5 : DataW.trod enc Tryd.prog w 0 (fun _ => true) true n 3 [v5] = some y5 := hx 5 _ rfl
      have g6 : DataW.trod enc Tryd.prog w 0 (fun _ => true) true n 3 [v6] = some y6 := hx 6 _ rfl
      have g7 : DataW.trod enc Tryd.prog w 0 (fun _ => true) true n 3 [v7] = some y7 := hx 7 _ rfl
      have g8 : DataW.trod enc Tryd.prog w 0 (fun _ => true) true n 4 [v8] = some y8 := hx 8 _ rfl
      have g9 : DataW.trod enc Tryd.prog w 0 (fun _ => true) true n 56 [v9] = some y9 := hx 9 _ rfl
      have ui : Tryd.prog.underlying 3 = some (.int .i64) := by kernel_rfl
      have us : Tryd.prog.underlying 9 = some .string := by kernel_rfl
      obtain ⟨k, e0, _, _⟩ := DataW.trod_int ui g0
      obtain ⟨vv, e1, _, _⟩ := DataW.trod_int ui g1
      obtain ⟨D, e2, _, _⟩ := DataW.trod_string us g2
      obtain ⟨S, e3, _, _⟩ := DataW.trod_string us g3
      obtain ⟨T, e4, _, _⟩ := DataW.trod_string us g4
      obtain ⟨l, e5, _, _⟩ := DataW.trod_int ui g5
      obtain ⟨N, e6, _, _⟩ := DataW.trod_int ui g6
      obtain ⟨z, e7, _, _⟩ := DataW.trod_int ui g7
      obtain ⟨ph, e8, _⟩ := DataW.trod_bool (show Tryd.prog.underlying 4 = some .bool from by kernel_rfl) g8
      obtain ⟨a, c, G, rfl, hI, hR⟩ := open_ints_at g9
      simp only [List.cons.injEq, and_true] at e0 e1 e2 e3 e4 e5 e6 e7 e8
      subst e0 e1 e2 e3 e4 e5 e6 e7 e8
      obtain ⟨tf, htf⟩ := str_as T
      refine ⟨⟨k, vv, D, S, tf, T.size, l, N, z, ph, a, c, G⟩, ?_, hI, fun R hw => hR R (fun m hm => hw m ?_)⟩
      · show _ = (hdC k vv D S (strOf tf T.size) l N z ph (.slice a G.length c)).toList
        rw [← htf]; rfl
      · have hd1 : y.1 = .agg [y0.1, y1.1, y2.1, y3.1, y4.1, y5.1, y6.1, y7.1, y8.1, y9.1] := by
          have := congrArg Prod.fst hd
          simpa using this
        rw [hd1, DataW.weights, Tryd.underlying63]
        exact DataW.weights_mem_each (j := 9) (t := 56) (d := y9.1) rfl rfl m hm
structure HdsIn (w : World) (a : Option Addr) (n : Nat) (R : Nat → Hd) : Prop where
  le : n ≤ maxLen
  cells : n = 0 ∨ ∃ b off, a = some ⟨b, off, none⟩ ∧ b < w.heap.size ∧ ∀ i, i < n → ∀ q, q < 10 → w.cell? ⟨b, off + i * 10 + q, none⟩ = (R i).cells.toList[q]?
  each : ∀ i, i < n → IntsIn w (.slice (R i).a (R i).G.length (R i).c) (R i).G ∧ (R i).G.length ≤ 20000000000000
theorem HdsIn.later {w w' : World} {a : Option Addr} {n : Nat} {R : Nat → Hd} (h : HdsIn w a n R) (hb : Below w.heap.size w w') : HdsIn w' a n R := by
  refine ⟨h.le, ?_, fun i hi => ⟨(h.each i hi).1.later hb, (h.each i hi).2⟩⟩
  rcases h.cells with h0 | ⟨b, o, e, hbb, hc⟩
  · exact .inl h0
  · exact .inr ⟨b, o, e, Nat.lt_of_lt_of_le hbb hb.size, fun i hi q hq => by rw [hb.cell (p := ⟨b, o + i * 10 + q, none⟩) hbb]; exact hc i hi q hq⟩
theorem weights_mem_all {H : Type} {P : Program} {e : TypeId} : ∀ {ds : List (DataW H)} {d : DataW H}, d ∈ ds → ∀ n ∈ d.weights P e, n ∈ DataW.weightsAll P e ds
  | x :: r, d, hd, n, hn => by
    rw [DataW.weightsAll, List.mem_append]
    rcases List.mem_cons.1 hd with rfl | hd
    · exact .inl hn
    · exact .inr (weights_mem_all hd n hn)
theorem open_headers {H : Type} {enc : TypeId × Value → H} {w : World} {base : Nat} {v : Value} {d : DataW H} {p : List MemPlace} (hk : Value.okWide Tryd.prog w .any base 81 v)
    (h : DataW.Trod enc Tryd.prog w 0 (fun _ => true) true 81 v d p) (hz : ∀ n ∈ DataW.weights Tryd.prog 81 d, n ≤ reachBytes) : ∃ a n c R, v = .slice a n c ∧ HdsIn w a n R ∧ n ≤ c ∧ c ≤ maxLen := by
  obtain ⟨a0, len, cap, rfl⟩ := okWide_slice Tryd.underlying81 hk
  obtain ⟨fuel, hf⟩ := h
  have ce : Tryd.prog.cellsOf 63 = 10 := by kernel_rfl
  rcases Go.Deep.open_slice Tryd.underlying81 hf with ⟨hcs, _⟩ | ⟨x, l, c, m, q, D, Pl, hcs, _, hl, hm, hmm, hy, hc⟩
  · have hcs : [Value.slice a0 len cap] = [Value.slice none 0 0] := hcs
    simp only [List.cons.injEq, Value.slice.injEq, and_true] at hcs
    obtain ⟨rfl, rfl, rfl⟩ := hcs
    exact ⟨_, _, _, fun _ => ⟨0, 0, ⟨#[]⟩, ⟨#[]⟩, fun _ => 0#8, 0, 0, 0, 0, false, none, 0, []⟩, rfl, ⟨Nat.zero_le _, .inl rfl, fun i hi => by omega⟩, Nat.le_refl _, Nat.zero_le _⟩
  · have hcs : [Value.slice a0 len cap] = [Value.slice (some x) l c] := hcs
    simp only [List.cons.injEq, Value.slice.injEq, and_true] at hcs
    obtain ⟨rfl, rfl, rfl⟩ := hcs
    rw [if_pos rfl] at hmm
    subst hmm
    have hd : d = .slice ((List.range len).map D) ((List.range (m - len)).map fun j => D (len + j)) := congrArg Prod.fst hy
    have e : ∀ i, i < len → ∃ r : Hd, (∀ q, q < 10 → w.cell? (x.add (i * 10 + q)) = r.cells.toList[q]?) ∧ IntsIn w (.slice r.a r.G.length r.c) r.G ∧ r.G.length ≤ 20000000000000 := fun i hi => by
      obtain ⟨cs', h1, h2⟩ := hc i (by omega)
      rw [ce] at h1
      obtain ⟨_, hlen, hcell⟩ := World.cells?_some h1
      obtain ⟨r, rfl, hI, hR⟩ := open_header_at hlen h2
      refine ⟨r, fun q hq => ?_, hI, ?_⟩
      · have := hcell q (by omega)
        rw [Go.Deep.add_add] at this
        rw [this]
      · have hb := hR reachBytes (fun n hn => hz n (by
          rw [hd, DataW.weights, Tryd.underlying81]
          refine List.mem_cons_of_mem _ (List.mem_append_left _ (weights_mem_all ?_ n hn))
          exact List.mem_map.2 ⟨i, List.mem_range.2 hi, rfl⟩))
        unfold reachBytes at hb
        omega
    obtain ⟨G, hG⟩ := Go.Deep.choose_lt e
    refine ⟨_, _, _, G, rfl, ⟨Nat.le_trans hl hm, ?_, fun i hi => (hG i hi).2⟩, hl, hm⟩
    by_cases h0 : len = 0
    · exact .inl h0
    · obtain ⟨b, off, spot⟩ := x
      have hz0 := (hG 0 (by omega)).1 0 (by omega)
      have hspot : spot = none := by simpa [Addr.add] using World.cell?_spot hz0
      subst hspot
      refine .inr ⟨b, off, rfl, ?_, fun i hi q hq => ?_⟩
      · have := World.block_lt_of_cell? w _ hz0
        simpa [Addr.add] using this
      · have h1 := (hG i hi).1 q hq
        rw [Go.WideShapes.add_plain] at h1
        rw [Nat.add_assoc]
        exact h1
end Go.Proofs.YtcgbhcmgddgheaaDoor
namespace Go.Proofs.YtcgbhcmgddgheaaDoor
open Go Go.RowKit Go.BigFrame
set_option linter.unusedSimpArgs false
set_option linter.unusedVariables false
set_option maxRecDepth 100000
theorem run_upto (w : World) (a : Option Addr) (k m c : Nat) (K : Int) (hK : K = (k : Int)) (hk : k ≤ m) (hm : m ≤ c) : (Instr.sliceAt 26 (.slice a m c) none (some (.int .i64 K)) none).run Tryd.prog w = .ok (.slice a k c) w := by
  subst hK
  have hkc : k ≤ c := Nat.le_trans hk hm
  have hu : Tryd.prog.underlying 26 = some (.slice (Tryd.prog.elem 26)) := by kernel_rfl
  rw [run_sliceAt_slice (t := 26) (h := hu), run_slice_any (t := 26) (ht := hu)]
  have h0 : (0 : Int) ≤ (k : Int) := by omega
  have h1 : (k : Int) ≤ (c : Int) := by omega
  simp [Instr.sliceBounds, go_sem, h0, h1]
theorem bytesIn_upto {w : World} {a : Option Addr} {k m : Nat} {p : Nat → BitVec 8} (h : BytesIn w a m p) (hk : k ≤ m) : BytesIn w a k p := by
  refine ⟨Nat.le_trans hk h.1, ?_⟩
  rcases h.2 with h0 | ⟨b, o, e, hb, hc⟩
  · exact .inl (by omega)
  · exact .inr ⟨b, o, e, hb, fun i hi => hc i (by omega)⟩
theorem bytesIn_none (w : World) (p : Nat → BitVec 8) : BytesIn w none 0 p := ⟨by unfold maxLen; omega, .inl rfl⟩
/-- A slice of one's own as bytes that lie somewhere. -/
theorem Own.asIn {B n : Nat} {v : Value} {f : Nat → BitVec 8} {w : World} (h : Own B v n f w) : ∃ a c, v = .slice a n c ∧ n ≤ c ∧ c ≤ maxLen ∧ BytesIn w a n f := by
  by_cases hn : 0 < n
  · obtain ⟨g, c, rfl, hc, hm, hb⟩ := h.bytesIn hn
    exact ⟨_, c, rfl, hc, hm, hb⟩
  · obtain rfl : n = 0 := by omega
    rcases h.row.2 with ⟨rfl, _⟩ | ⟨g, cap, cur, rfl, hB, hg, hnc, hcm, hcs, ht⟩
    · exact ⟨none, 0, rfl, Nat.le_refl _, by unfold maxLen; omega, bytesIn_none w f⟩
    · exact ⟨_, cap, rfl, hnc, hcm, by unfold maxLen; omega, .inl rfl⟩
theorem OwnS.own {B : Nat} {v : Value} {S : ByteArray} {w : World} (h : OwnS B v S w) : Own B v S.size (bx S) w := by
  obtain ⟨n, f, ho, rfl⟩ := h
  rw [strOf_size]
  exact ho.congr (fun i hi => (bx_of f n i hi).symm)
theorem hputS_small {k v l N : Int} {z : Nat} {D S : ByteArray} {tf : Nat → BitVec 8} {nt : Nat} {ph : Bool} {G : List Int} (hin : inB G D.size S.size nt v l N (z : Int)) (hf : inF k v l N (z : Int) S.size nt G.length ph) :
    z < (hputS k v D S tf nt l N z ph G).size ∧ (hputS k v D S tf nt l N z ph G).size ≤ 3000 := by
  obtain ⟨hG, hG1, hD, hS, hnt, hw, ⟨h0, h1⟩, hN, hz⟩ := hin
  have htk := textK_pos nt
  unfold hputS
  split
  · simp only [size_append, low_size]; omega
  · split
    · simp only [size_append, pre_size, strOf_size]; rcases hf with h | h | h | h | h <;> omega
    · split
      · rw [fours_size, pre_size]; rcases hf with h | h | h | h | h <;> omega
      · split
        · simp only [size_append, pre_size, tok_size, lenS_size, low_size]; omega
        · simp only [size_append, pre_size, lenS_size, low_size]; omega
theorem put_in (k v l N : Int) (z : Nat) (D S : ByteArray) (tf : Nat → BitVec 8) (nt : Nat) (ph : Bool) (G : List Int) (hin : inB G D.size S.size nt v l N (z : Int)) (hf : inF k v l N (z : Int) S.size nt G.length ph) (X : ByteArray) (n : Nat)
    (hX : hputS k v D S tf nt l N z ph G = X) (hn : X.size = n) (w : World) (L : Value) (hL : IntsIn w L G) (tab : Tab w) :
    Calls Tryd.prog 33 #[.agg (hdC k v D S (strOf tf nt) l N (z : Int) ph L)] w fun e w' => ∃ a c, e = .returned (.tuple #[.slice a n c, .int .i64 0]) ∧ BytesIn w' a n (bx X) ∧ n ≤ c ∧ c ≤ maxLen ∧ Below w.heap.size w w' := by
  obtain ⟨a, c, rfl, _⟩ := hL.at_
  refine (put_ok k v l N z D S tf nt ph a c G w hL hin hf tab).mono ?_
  rintro e w' ⟨b, rfl, ho, hb⟩
  rw [hX] at ho
  obtain ⟨a', c', rfl, hc, hm, hi⟩ := ho.own.asIn
  rw [hn] at hi hc
  exact ⟨a', c', by rw [hn], hi, hc, hm, hb⟩
/-- Get of what Put made, with m bytes behind. -/
theorem get_back (k v l N : Int) (z : Nat) (D S : ByteArray) (tf : Nat → BitVec 8) (nt : Nat) (ph : Bool) (G : List Int) (hin : inB G D.size S.size nt v l N (z : Int)) (hf : inF k v l N (z : Int) S.size nt G.length ph) (X : ByteArray) (n m : Nat)
    (hX : hputS k v D S tf nt l N z ph G = X) (hn : X.size = n) (hm : k = 3 ∨ k = 5 → m = 0) (g : Got) (hg : backG k v D S tf nt l z G n m = g) (F : Nat → BitVec 8) (hF : ∀ i, i < n → F i = bx X i) (a : Option Addr) (c : Nat) (w : World) (hB : BytesIn w a (n + m) F) (hc : n + m ≤ c) (hcm : c ≤ maxLen) :
    Calls Tryd.prog 37 #[.slice a (n + m) c, .int .i64 (D.size : Int)] w (GotPost g w) := by
  have h := get_packet F a (n + m) c (D.size : Int) w hB hc hcm
  rw [got_back k v l N z D S tf nt ph G hin hf n m (by rw [hX, hn]) hm (by rw [hX]; intro i hi; rw [Nat.zero_add]; exact hF i (hn ▸ hi)), hg] at h
  exact h
theorem load_rh {w : World} {H : Nat} {c : Array Value} {k v : Int} {D S T : ByteArray} {l N z : Int} {ph : Bool} {L : Value} (e : c = hdC k v D S T l N z ph L) (h : w.heap[H]? = some (.cells c 63 (0, 0))) : (Instr.loadAt 63 (.pointer (some ⟨H, 0, none⟩))).run Tryd.prog w = .ok (.agg (hdC k v D S T l N z ph L)) w := by
  subst e
  have h1 := run_loadAt_mid (P := Tryd.prog) w H 0 63 (hdC k v D S T l N z ph L).toList _ (fun j u hj => by
    rw [Nat.zero_add, cell_of_row _ _ _ _ _ _ h]
    simpa using hj) Tryd.underlying63 rfl (by kernel_rfl)
  simpa using h1
end Go.Proofs.YtcgbhcmgddgheaaDoor
namespace Go.Proofs.YtcgbhcmgddgheaaDoor
open Go Go.RowKit Go.BigFrame
set_option linter.unusedSimpArgs false
set_option linter.unusedVariables false
set_option maxRecDepth 100000
def T8 : TypeId := 63
/-- Where the first loop stands: the packets that were put, their bytes, the headers, where the numbers begin. -/
structure RSt (B : Nat) (low : BitVec 8) (L : List PRow) (s5 s6 s7 : Value) (w : World) : Prop where
  ok : ∀ r ∈ L, r.ok ∧ r.c ≤ maxLen
  bytes : Own B s5 (totR L) (catR low L) w
  had : w.ownsRow B 63 10 s6 L.length (hadC L)
  at_ : OwnI B s7 (atR 0 L) w
  ne56 : s5.ownBlock = none ∨ s5.ownBlock ≠ s6.ownBlock
  ne57 : s5.ownBlock = none ∨ s5.ownBlock ≠ s7.ownBlock
  ne67 : s6.ownBlock = none ∨ s6.ownBlock ≠ s7.ownBlock
theorem ownsRow_later {w w' : World} {base : Nat} {e : TypeId} {size : Nat} {v : Value} {n : Nat} {xs : List Value} (h : w.ownsRow base e size v n xs) (hb : Below w.heap.size w w') : w'.ownsRow base e size v n xs := by
  refine ⟨h.1, ?_⟩
  rcases h.2 with hn | ⟨g, cap, cur, hv, hb', hg, rest⟩
  · exact .inl hn
  · exact .inr ⟨g, cap, cur, hv, hb', (hb.block _ (lt_row hg)).trans hg, rest⟩
theorem ownsRow_keep {w w' : World} {base : Nat} {e : TypeId} {size : Nat} {v : Value} {n : Nat} {xs : List Value} (h : w.ownsRow base e size v n xs) (hk : ∀ g, v.ownBlock = some g → g < w.heap.size → w'.heap[g]? = w.heap[g]?) : w'.ownsRow base e size v n xs := by
  refine ⟨h.1, ?_⟩
  rcases h.2 with hn | ⟨g, cap, cur, hv, hb', hg, rest⟩
  · exact .inl hn
  · exact .inr ⟨g, cap, cur, hv, hb', (hk g (by rw [hv]; rfl) (lt_row hg)).trans hg, rest⟩
theorem own_keep {B n : Nat} {v : Value} {f : Nat → BitVec 8} {w w' : World} (h : Own B v n f w) (hs : w.heap.size ≤ w'.heap.size) (hk : ∀ g, v.ownBlock = some g → g < w.heap.size → w'.heap[g]? = w.heap[g]?) : Own B v n f w' :=
  ⟨ownsRow_keep h.row hk, Nat.le_trans h.base hs⟩
theorem src_five (w : World) : Src Tryd.prog 1 26 (.slice (some ⟨w.heap.size, 0, none⟩) 5 5) 5 (firsts (fun i => BitVec.ofNat 8 (i + 1)) 5) (w.alloc (.cells #[.int .u8 1, .int .u8 2, .int .u8 3, .int .u8 4, .int .u8 5] 5)) := by
  have h := heap_alloc_last w (.cells #[.int .u8 1, .int .u8 2, .int .u8 3, .int .u8 4, .int .u8 5] 5)
  refine src_bytes _ w.heap.size 0 5 5 _ (fun i hi => ?_)
  rw [Nat.zero_add, cell_of_row _ _ _ _ _ _ h]
  match i, hi with
  | 0, _ => simp [n8]
  | 1, _ => simp [n8]
  | 2, _ => simp [n8]
  | 3, _ => simp [n8]
  | 4, _ => simp [n8]
theorem info_hd : ∃ i0, Tryd.prog.info? 63 = some i0 ∧ i0.zero = some (.agg #[.int .i64 0, .int .i64 0, .string ⟨#[]⟩, .string ⟨#[]⟩, .string ⟨#[]⟩, .int .i64 0, .int .i64 0, .int .i64 0, .bool false, .slice none 0 0]) ∧ i0.size = 10 ∧ i0.bytes ≤ 1000 := by
  have h : (Tryd.prog.info? 63).map (fun i => (i.zero, i.size, decide (i.bytes ≤ 1000))) = some (some (.agg #[.int .i64 0, .int .i64 0, .string ⟨#[]⟩, .string ⟨#[]⟩, .string ⟨#[]⟩, .int .i64 0, .int .i64 0, .int .i64 0, .bool false, .slice none 0 0]), 10, true) := by kernel_rfl
  cases hq : Tryd.prog.info? 63 with
  | none => rw [hq] at h; cases h
  | some i =>
    rw [hq] at h
    simp only [Option.map_some, Option.some.injEq, Prod.mk.injEq, decide_eq_true_eq] at h
    exact ⟨i, rfl, h.1, h.2.1, h.2.2⟩
theorem RSt.later {B : Nat} {low : BitVec 8} {L : List PRow} {s5 s6 s7 : Value} {w w' : World} (h : RSt B low L s5 s6 s7 w) (hb : Below w.heap.size w w') : RSt B low L s5 s6 s7 w' :=
  ⟨h.ok, h.bytes.later hb, ownsRow_later h.had hb, h.at_.kept hb.size (fun g _ hg => hb.block g hg), h.ne56, h.ne57, h.ne67⟩
theorem firsts_set0 (f : Nat → BitVec 8) (m : Nat) (y : BitVec 8) : (firsts f m).set 0 (.int .u8 (n8 y)) = firsts (fun i => if i = 0 then y else f i) m := by
  apply List.ext_getElem (by simp [firsts])
  intro i h1 h2
  simp only [firsts, List.getElem_set, List.getElem_map, List.getElem_range]
  by_cases h : i = 0
  · subst h; simp
  · rw [if_neg (by omega), if_neg h]
theorem own_set0 {B g cap m : Nat} {f : Nat → BitVec 8} {w : World} (h : Own B (.slice (some ⟨g, 0, none⟩) m cap) m f w) (y : BitVec 8) :
    Own B (.slice (some ⟨g, 0, none⟩) m cap) m (fun i => if i = 0 then y else f i) (w.setCell ⟨g, 0, none⟩ (.int .u8 (n8 y))) ∧ w.grownBy (w.setCell ⟨g, 0, none⟩ (.int .u8 (n8 y))) (some g) := by
  have h1 := h.row.stored 0 (.int .u8 (n8 y))
  rw [firsts_set0] at h1
  exact ⟨⟨h1.1, by have := h1.2.size; have := h.base; omega⟩, h1.2⟩
theorem totR_le : ∀ (L : List PRow), (∀ r ∈ L, r.ok ∧ r.c ≤ maxLen) → totR L ≤ 3005 * L.length
  | [], _ => by simp [totR]
  | r :: l, h => by
    have h1 := (h r (List.mem_cons_self ..)).1.2.2.2.2
    have h2 := totR_le l (fun q hq => h q (List.mem_cons_of_mem _ hq))
    simp only [totR, List.length_cons]
    omega
/-- The block of v, if it has one, is a row of e's. -/
def TypeAt (w : World) (v : Value) (e : TypeId) : Prop := ∀ k, v.ownBlock = some k → k < w.heap.size ∧ ∃ cur, w.heap[k]? = some (.cells cur e (0, 0))
theorem typeAt_row {w : World} {base : Nat} {e : TypeId} {size : Nat} {v : Value} {n : Nat} {xs : List Value} (h : w.ownsRow base e size v n xs) : TypeAt w v e := by
  intro k hk
  rcases h.2 with ⟨hv, _⟩ | ⟨g, cap, cur, hv, hb', hg, rest⟩
  · rw [hv] at hk; cases hk
  · rw [hv] at hk
    injection hk with hk
    have hk : g = k := hk
    subst hk
    exact ⟨lt_row hg, cur, hg⟩
theorem typeAt_ints {B : Nat} {v : Value} {G : List Int} {w : World} (h : OwnI B v G w) : TypeAt w v 3 := by
  intro k hk
  rcases h.row with ⟨hv, _⟩ | ⟨g, o, cap, cur, hv, hb', hg, rest⟩
  · rw [hv] at hk; cases hk
  · rw [hv] at hk
    injection hk with hk
    have hk : g = k := hk
    subst hk
    exact ⟨lt_row hg, cur, hg⟩
theorem TypeAt.ne {w : World} {v : Value} {e e' : TypeId} {c : Array Value} {k : Nat} (h : TypeAt w v e) (hc : w.heap[k]? = some (.cells c e' (0, 0))) (hne : e ≠ e') : v.ownBlock ≠ some k := by
  intro hk
  obtain ⟨_, cur, h1⟩ := h k hk
  rw [hc] at h1
  injection h1 with h1
  injection h1 with _ h1
  exact hne h1.symm
theorem TypeAt.apart {w : World} {v v' : Value} {e e' : TypeId} (h : TypeAt w v e) (h' : TypeAt w v' e') (hne : e ≠ e') : v.ownBlock = none ∨ v.ownBlock ≠ v'.ownBlock := by
  cases hv : v'.ownBlock with
  | none =>
    cases hu : v.ownBlock with
    | none => exact .inl rfl
    | some k => exact .inr (by simp)
  | some k =>
    obtain ⟨_, cur, h1⟩ := h' k hv
    exact .inr (h.ne h1 hne)
theorem catR_join (low : BitVec 8) (L : List PRow) (r : PRow) (h0 : 0 < r.n) (i : Nat) (hi : i < totR L + (r.n + 5)) :
    joinb (joinb (catR low L) (totR L) (fun i => if i = 0 then bx r.X 0 ^^^ (low &&& 15#8) else bx r.X i)) (totR L + r.n) (fun i => BitVec.ofNat 8 (i + 1)) i = catR low (L ++ [r]) i := by
  rw [catR_snoc _ _ _ _ hi]
  unfold joinb segF
  by_cases h1 : i < totR L
  · rw [if_pos (show i < totR L + r.n by omega), if_pos h1, if_pos h1]
  · rw [if_neg h1]
    by_cases h2 : i < totR L + r.n
    · rw [if_pos h2, if_neg h1]
      by_cases h3 : i - totR L = 0
      · rw [if_pos h3]; dsimp only; rw [if_pos h3]
      · rw [if_neg h3, if_pos (by omega)]; dsimp only; rw [if_neg h3]
    · rw [if_neg h2, if_neg h1, if_neg (show ¬ i - totR L = 0 by omega), if_neg (show ¬ i - totR L < r.n by omega), show i - (totR L + r.n) = i - totR L - r.n by omega]
theorem RSt.grow {B : Nat} {low : BitVec 8} {L : List PRow} {r : PRow} {s5 s6 s7 v6 v7 v8 v10 : Value} {w w5 w6 w7 w8 w9 w10 : World} {o5 o7 o9 : Obj} {x : Int} {f7 f8 : Nat → BitVec 8} {m7 : Nat} {c6 c8 : Array Value}
    (st : RSt B low L s5 s6 s7 w) (hr : r.ok ∧ r.c ≤ maxLen) (h5 : Below w.heap.size w w5)
    (i6 : OwnI B v6 (atR 0 L ++ [x]) w6) (hx : x = ((totR L : Nat) : Int) + r.n - r.z) (g6 : GrewI (w5.alloc o5) w6 s7 v6)
    (a6 : Own B s5 (totR L) (catR low L) w6) (r6 : w6.heap[w.heap.size]? = some (.cells c6 T8 (0, 0)))
    (i7 : Own B v7 m7 f7 w7) (g7 : GrownV w6 w7 s5 v7) (g8 : GrownV (w7.alloc o7) w8 v7 v8)
    (i8 : Own B v8 (totR L + (r.n + 5)) f8 w8) (hf8 : ∀ i, i < totR L + (r.n + 5) → f8 i = catR low (L ++ [r]) i) (r8 : w8.heap[w.heap.size]? = some (.cells c8 T8 (0, 0)))
    (b9 : Below w.heap.size w8 w9) (k9 : ∀ k, k ≠ w.heap.size → w9.heap[k]? = w8.heap[k]?)
    (hd9 : w9.ownsRow B T8 10 s6 L.length (hadC L))
    (g10 : (w9.alloc o9).grownBy w10 s6.ownBlock) (o10 : w10.ownsRow B T8 10 v10 (L.length + 1) (hadC L ++ r.cells.toList)) :
    RSt B low (L ++ [r]) v8 v10 v6 w10 ∧ Below B w w10 := by
  have z10 : w9.heap.size ≤ w10.heap.size := by have := g10.size; simp at this; omega
  have z8 : w7.heap.size ≤ w8.heap.size := by have := g8.grown.size; simp at this; omega
  have z9 := b9.size
  have z7 := g7.grown.size
  have T9 := typeAt_row hd9
  have at10 : OwnI B v6 (atR 0 (L ++ [r])) w10 := by
    have h := i6.kept (w' := w10) (by omega) (fun k hk hlt => by
      obtain ⟨_, cur, h1⟩ := typeAt_ints i6 k hk
      have h2 := (g7.block hlt ((typeAt_row a6.row).ne h1 (by decide))).trans h1
      have h3 := (g8.block (k := k) (by simp; omega) ((typeAt_row i7.row).ne h2 (by decide))).trans ((heap_alloc_old _ _ (lt_row h2)).trans h2)
      have hne : k ≠ w.heap.size := fun e => by
        subst e
        rw [r6] at h1
        injection h1 with h1
        injection h1 with _ h1
        exact absurd h1 (by decide)
      have h4 := (k9 k hne).trans h3
      have h5 := (g10.block k (by simp; have := lt_row h4; omega) (fun e => T9.ne h4 (by decide) e.symm)).trans ((heap_alloc_old _ _ (lt_row h4)).trans h4)
      exact h5.trans h1.symm)
    rw [atR_snoc, Nat.zero_add, ← hx]
    exact h
  have by10 : Own B v8 (totR (L ++ [r])) (catR low (L ++ [r])) w10 := by
    have h := own_keep (w' := w10) i8 (by omega) (fun k hk hlt => by
      obtain ⟨_, cur, h1⟩ := typeAt_row i8.row k hk
      have hne : k ≠ w.heap.size := fun e => by
        subst e
        rw [r8] at h1
        injection h1 with h1
        injection h1 with _ h1
        exact absurd h1 (by decide)
      have h4 := (k9 k hne).trans h1
      have h5 := (g10.block k (by simp; have := lt_row h4; omega) (fun e => T9.ne h4 (by decide) e.symm)).trans ((heap_alloc_old _ _ (lt_row h4)).trans h4)
      exact h5.trans h1.symm)
    rw [totR_snoc]
    exact h.congr hf8
  have had10 : w10.ownsRow B T8 10 v10 (L ++ [r]).length (hadC (L ++ [r])) := by
    rw [hadC_snoc, List.length_append]
    exact o10
  have hB : B ≤ w.heap.size := st.bytes.base
  refine ⟨⟨?_, by10, had10, at10, (typeAt_row by10.row).apart (typeAt_row had10) (by decide), (typeAt_row by10.row).apart (typeAt_ints at10) (by decide), (typeAt_row had10).apart (typeAt_ints at10) (by decide)⟩, ?_⟩
  · intro q hq
    rcases List.mem_append.1 hq with h | h
    · exact st.ok q h
    · rw [List.mem_singleton] at h; subst h; exact hr
  · have e5 : Below B w w5 := h5.mono hB
    have hB5 : B ≤ w5.heap.size := Nat.le_trans hB h5.size
    have e6 := (e5.alloc hB5 o5).trans (g6.below B (by simp; omega) (fun k hk => (st.at_.lt hk).1))
    have e7 := e6.grown g7.grown a6.base (fun k hk => (a6.lt hk).1)
    have e8 := (e7.alloc i7.base o7).grown g8.grown (by have := i7.base; simp; omega) (fun k hk => (i7.lt hk).1)
    have e9 := e8.trans (b9.mono hB)
    exact (e9.alloc (by have := i8.base; omega) o9).grown g10 (by have := i8.base; simp; omega) (fun k hk => (st.had.lt k hk).1)
theorem had_slice {w : World} {B : Nat} {L : List PRow} {v : Value} (h : w.ownsRow B T8 10 v L.length (hadC L)) : ∃ a c, v = .slice a L.length c := by
  rcases h.2 with ⟨hv, h0⟩ | ⟨g, cap, cur, hv, _⟩
  · exact ⟨none, 0, by rw [hv, h0]⟩
  · exact ⟨_, _, hv⟩
/-- The j-th of the headers that were kept. -/
theorem had_at {w : World} {B : Nat} {L : List PRow} {v : Value} (h : w.ownsRow B T8 10 v L.length (hadC L)) {j : Nat} (hj : j < L.length) :
    ∃ g c, v = .slice (some ⟨g, 0, none⟩) L.length c ∧ g < w.heap.size ∧ ∀ q, q < 10 → w.cell? ⟨g, j * 10 + q, none⟩ = L[j].cells.toList[q]? := by
  rcases h.2 with ⟨_, h0⟩ | ⟨g, cap, cur, hv, hb', hg, h1, h2, h3, h4⟩
  · omega
  · refine ⟨g, cap, hv, lt_row hg, fun q hq => ?_⟩
    rw [cell_of_row _ _ _ _ _ _ hg, ← hadC_at L j q hj hq, ← h4, List.getElem?_take, if_pos (by omega), Nat.mul_comm 10 j]
    simp
end Go.Proofs.YtcgbhcmgddgheaaDoor
namespace Go.Proofs.YtcgbhcmgddgheaaDoor
open Go Go.RowKit Go.BigFrame
set_option linter.unusedSimpArgs false
set_option linter.unusedVariables false
set_option maxRecDepth 100000
set_option maxHeartbeats 32000000 in
theorem rows_any (low : BitVec 8) (a : Option Addr) (n c : Nat) (R : Nat → Hd) (w : World) (hR : HdsIn w a n R) (tab : Tab w) :
    Calls Tryd.prog 13 #[.slice a n c, .int .u8 (n8 low)] w fun e w' => e = .returned (.bool true) ∧ Below w.heap.size w w' := by
  have HR := Lib.hid hR
  have TB := Lib.hid tab
  have hn63 : n ≤ 9223372036854775807 := by have := hR.le; unfold maxLen at this; omega
  clear hR tab
  go_enter Tryd.func13, Tryd.ntmps13
  go_wp2_with fail
  with_reducible refine (heads_any w).mono ?_
  rintro e w1 ⟨rfl, hb1⟩
  have B1 := Lib.hid hb1
  clear hb1
  go_upto_region 7 with (fail)
  go_loopw [5, 6, 7, 8] (fun s5 s6 s7 s8 wr => ∃ (i : Nat) (L : List PRow), i ≤ n ∧ i ≤ 8 ∧ L.length ≤ i ∧ s8 = .int .i64 (i : Int) ∧ RSt w1.heap.size low L s5 s6 s7 wr ∧ Below w1.heap.size w1 wr) (fun _ _ _ s8 _ => 8 - (intOf s8).toNat)
  case atStart => exact ⟨0, [], by omega, by omega, by simp, rfl, ⟨(by intro r hr; cases hr), Own.nil _ _ _ (Nat.le_refl _), World.ownsRow_nil _ _ _ _, OwnI.nil _ _ (Nat.le_refl _), .inl rfl, .inl rfl, .inl rfl⟩, Below.refl _ _⟩
  case round =>
    obtain ⟨i, L, hin, hi8, hLi, rfl, st, bel⟩ := hrel
    have ST := Lib.hid st
    have BL := Lib.hid bel
    clear st bel
    by_cases hlt : i < n ∧ i < 8
    · obtain ⟨hi1, hi2⟩ := hlt
      have hI1 : (i : Int) < (n : Int) := by omega
      have hI2 : (i : Int) < 8 := by omega
      have HRr := Lib.hid (HR.out.later (B1.out.trans (BL.out.mono B1.out.size)))
      obtain h0 | ⟨b, o, rfl, hbl, hc⟩ := HRr.out.cells
      · omega
      obtain ⟨hG, hG2⟩ := HRr.out.each i hi1
      have hci := hc i hi1
      obtain ⟨r, hr⟩ : ∃ r, R i = r := ⟨_, rfl⟩
      rw [hr] at hG hG2 hci
      have c0 : wr.cell? ⟨b, o + i * 10, none⟩ = some (.int .i64 r.k) := hci 0 (by omega)
      have c1 : wr.cell? ⟨b, o + i * 10 + 1, none⟩ = some (.int .i64 r.v) := hci 1 (by omega)
      have c2 : wr.cell? ⟨b, o + i * 10 + 2, none⟩ = some (.string r.D) := hci 2 (by omega)
      have c3 : wr.cell? ⟨b, o + i * 10 + 3, none⟩ = some (.string r.S) := hci 3 (by omega)
      have c4 : wr.cell? ⟨b, o + i * 10 + 4, none⟩ = some (.string (strOf r.tf r.nt)) := hci 4 (by omega)
      have c5 : wr.cell? ⟨b, o + i * 10 + 5, none⟩ = some (.int .i64 r.l) := hci 5 (by omega)
      have c6 : wr.cell? ⟨b, o + i * 10 + 6, none⟩ = some (.int .i64 r.N) := hci 6 (by omega)
      have c7 : wr.cell? ⟨b, o + i * 10 + 7, none⟩ = some (.int .i64 r.z) := hci 7 (by omega)
      have c8 : wr.cell? ⟨b, o + i * 10 + 8, none⟩ = some (.bool r.ph) := hci 8 (by omega)
      have c9 : wr.cell? ⟨b, o + i * 10 + 9, none⟩ = some (.slice r.a r.G.length r.c) := hci 9 (by omega)
      have IG := Lib.hid hG
      have IG2 := Lib.hid hG2
      obtain ⟨k, v, D, S, tf, nt, l, N, z, ph, ga, gc, G⟩ := r
      dsimp only at c0 c1 c2 c3 c4 c5 c6 c7 c8 c9 IG IG2
      generalize strOf tf nt = TT at *
      clear hc hci hr hG hG2 HRr hbl
      go_upto_region 10 with (fail)
      go_upto_region 11 with (fail)
      obtain ⟨k3, hk3⟩ : ∃ q, wrap64 ((IntKind.u64.wrap k).tmod 3) = q := ⟨_, rfl⟩
      have K3 : k3 = 0 ∨ k3 = 1 ∨ k3 = 2 := by
        rw [← hk3]
        have h0 : 0 ≤ IntKind.u64.wrap k ∧ IntKind.u64.wrap k < 18446744073709551616 := by rw [IntKind.wrap_u64]; omega
        have h1 : (IntKind.u64.wrap k).tmod 3 = (IntKind.u64.wrap k) % 3 := Int.tmod_eq_emod_of_nonneg h0.1
        rw [h1]; unfold wrap64
        omega
      rw [hk3]
      clear hk3
      go_upto_region 13 with (fail)
      obtain ⟨lz, hlz⟩ : ∃ q, wrap64 (z + 5) = q := ⟨_, rfl⟩
      rw [hlz]
      have LZ := Lib.hid hlz
      clear hlz
      have row := heap_alloc_last wr (.cells #[.int .i64 k3, .int .i64 v, .string D, .string S, .string ⟨#[]⟩, .int .i64 lz, .int .i64 N, .int .i64 z, .bool ph, .slice ga G.length gc] 63)
      have bel := (Below.refl wr.heap.size wr).alloc (Nat.le_refl _) (.cells #[.int .i64 k3, .int .i64 v, .string D, .string S, .string ⟨#[]⟩, .int .i64 lz, .int .i64 N, .int .i64 z, .bool ph, .slice ga G.length gc] 63)
      have BR := Lib.hid (fun h => B1.out.trans (BL.out.mono h))
      generalize wr.alloc _ = w2 at *
      have BEL := Lib.hid bel
      have RX := Lib.hid row
      obtain ⟨x0, x1, x2, x3, x4, x5, x6, x7, x8, x9⟩ := cells10 row
      have IG3 := Lib.hid (IG.out.later BEL.out)
      have TO := Lib.hid (to_any k3 v lz N z D S ⟨#[]⟩ ph ga gc G w2 IG3.out (by first | exact IG2.out | fail "IG2"))
      clear row bel
      unfold hdC at TO
      go_wp2_with fail
      with_reducible refine TO.out.mono ?_
      rintro e w3 ⟨L', rfl, hL3, hb3⟩
      have H3 := Lib.hid (BEL.out.trans (hb3.mono BEL.out.size))
      have R3 := Lib.hid ((hb3.block _ (lt_row RX.out)).trans RX.out)
      have L3 := Lib.hid hL3
      clear hL3 hb3 TO x0 x1 x2 x3 x4 x5 x6 x7 x8 x9
      by_cases hio : inB G D.size S.size 0 v lz N z ∧ inF k3 v lz N z S.size 0 G.length ph
      · obtain ⟨hin, hf⟩ := hio
        have hG0 : G = [] ∧ ph = false ∧ lz = z + 5 ∧ 0 ≤ z := by
          have h1 := hin
          have h2 := hf
          have h3 := LZ.out
          unfold inB at h1
          unfold inF at h2
          have hzz : 0 ≤ z ∧ z ≤ 4 := by omega
          unfold wrap64 at h3
          refine ⟨List.length_eq_zero_iff.mp (by omega), ?_, by omega, hzz.1⟩
          rcases h2 with h2 | h2 | h2 | h2 | h2
          · exact h2.2.1.2.1
          · exact h2.2.1.2.1
          · omega
          · omega
          · omega
        obtain ⟨rfl, rfl, rfl, hz0⟩ := hG0
        obtain ⟨zn, rfl⟩ := Int.eq_ofNat_of_zero_le hz0
        obtain ⟨X, hX⟩ : ∃ X, hputS k3 v D S (fun _ => 0#8) 0 ((zn : Int) + 5) N zn false [] = X := ⟨_, rfl⟩
        obtain ⟨m, hm⟩ : ∃ m, X.size = m := ⟨_, rfl⟩
        have hsm := hputS_small (tf := fun _ => 0#8) hin hf
        rw [hX, hm] at hsm
        obtain ⟨hzm, hm3⟩ := hsm
        obtain ⟨aq, cq, rfl, _⟩ := L3.out.at_
        have T3 := TB.out.later (B1.out.trans ((BL.out.trans (H3.out.mono BL.out.size)).mono B1.out.size))
        have pk := put_ok k3 v _ N zn D S (fun _ => 0#8) 0 false aq cq [] w3 L3.out hin hf T3
        rw [hX, show strOf (fun _ => 0#8) 0 = ⟨#[]⟩ from rfl] at pk
        have HP := Lib.hid (show PRow.ok ⟨k3, v, D, S, zn, m, ga, gc, X⟩ from ⟨K3, ⟨N, _, hin, hf, hX⟩, hm, hzm, hm3⟩)
        unfold hdC at pk
        simp only [List.length_nil] at pk
        have r3 := R3.out
        simp only [List.length_nil] at r3
        have PK := Lib.hid pk
        clear pk T3 hin hf hX
        go_wp2_with fail
        with_reducible refine PK.out.mono ?_
        rintro e w4 ⟨bs, rfl, hos, hb4⟩
        have o4 := hos.own
        rw [hm] at o4
        have O4 := Lib.hid o4
        have H4 := Lib.hid (H3.out.trans (hb4.mono H3.out.size))
        have R4 := Lib.hid ((hb4.block _ (lt_row r3)).trans r3)
        clear r3 R3 RX hos o4 PK hb4
        obtain ⟨g, cap, rfl, hcap, hcapm, hbi⟩ := O4.out.bytesIn (by omega)
        have y0 : w4.cell? ⟨g, 0, none⟩ = some (.int .u8 (n8 (bx X 0))) := by
          rcases hbi.2 with h0 | ⟨b', o', e, _, hc⟩
          · omega
          · cases e; exact hc 0 (by omega)
        have f0 : w4.frozen? ⟨g, 0, none⟩ = false := O4.out.row.frozenAt 0
        go_upto_region 15 with (fail)
        go_upto_region 16 with (fail)
        obtain ⟨hb5, hg5⟩ := own_set0 O4.out (bx X 0 ^^^ (low &&& 15#8))
        have hgl : w3.heap.size + 1 ≤ g := (O4.out.lt (k := g) rfl).1
        have B5 := Lib.hid hb5
        have H5 := Lib.hid (H4.out.setCell (p := ⟨g, 0, none⟩) (by have := H3.out.size; show wr.heap.size ≤ g; omega) (.int .u8 (n8 (bx X 0 ^^^ low &&& 15#8))))
        have R5 := Lib.hid ((heap_setCell_other w4 ⟨g, 0, none⟩ wr.heap.size (.int .u8 (n8 (bx X 0 ^^^ low &&& 15#8))) (by have := H3.out.size; show wr.heap.size ≠ g; omega)).trans R4.out)
        clear hb5 hg5 y0 f0 O4 R4 H4 hbi
        generalize World.setCell w4 _ _ = w5 at *
        have S5 := Lib.hid (ST.out.later H5.out)
        have htl := totR_le L ST.out.ok
        obtain ⟨a5, c5, rfl, _, _, _⟩ := ST.out.bytes.asIn
        obtain ⟨x0, x1, x2, x3, x4, x5, x6, x7, x8, x9⟩ := cells10 R5.out
        clear x0 x1 x2 x3 x4 x5 x6 x8 x9
        have A5 := Lib.hid (S5.out.at_.kept (w' := w5.alloc (.cells #[.int .i64 (↑(totR L) + ↑m - ↑zn)] 3)) (by simp) (fun k _ hk => heap_alloc_old _ _ hk))
        have C5 := Lib.hid (show Src Tryd.prog 1 56 _ [(↑(totR L) + ↑m - ↑zn : Int)].length _ _ from src_int_new w5 (↑(totR L) + ↑m - ↑zn))
        have N5 := Lib.hid (show (atR 0 L).length + [(↑(totR L) + ↑m - ↑zn : Int)].length ≤ 20000000000000 by rw [atR_len]; simp only [List.length_cons, List.length_nil]; omega)
        go_upto_region 17 with (first
          | (at_builtin; refine wpList_append_ints (o := ⟨some 71, _, _, _, _, _⟩) rfl _ _ rfl rfl rfl A5.out C5.out N5.out ?_; intro v6 w6 ho6 hg6; have I6 := Lib.hid ho6; have G6 := Lib.hid hg6; clear ho6 hg6)
          | fail)
        have A6 := Lib.hid (own_keep (S5.out.bytes.alloc (.cells #[.int .i64 (↑(totR L) + ↑m - ↑zn)] 3)) G6.out.size (fun k hk hlt => G6.out.block k hlt (fun e => by
          rcases S5.out.ne57 with h | h
          · rw [h] at hk; cases hk
          · exact h (hk.trans e.symm))))
        have hb6 := own_keep (B5.out.alloc (.cells #[.int .i64 (↑(totR L) + ↑m - ↑zn)] 3)) G6.out.size (fun k hk hlt => G6.out.block k hlt (fun e => by
          have h1 := (ST.out.at_.lt e).2
          have h2 : some g = some k := hk
          have h3 := H3.out.size
          injection h2 with h2
          omega))
        have hc6 : BytesIn w6 (some ⟨g, 0, none⟩) m (fun i => if i = 0 then bx X 0 ^^^ (low &&& 15#8) else bx X i) := by
          obtain ⟨_, _, e, _, _, hb⟩ := hb6.asIn
          cases e
          exact hb
        have C6 := Lib.hid (src_in hc6 cap)
        clear hb6 hc6 A5 C5 N5
        go_upto_region 18 with (first
          | (at_builtin; refine wpList_append_bytes (o := ⟨some 74, _, _, _, _, _⟩) rfl _ _ 26 rfl rfl rfl A6.out C6.out (by omega) ?_; intro v7 w7 ho7 hg7; have I7 := Lib.hid ho7; have G7 := Lib.hid hg7; have D7 := Lib.hid (I7.out.alloc (.cells #[.int .u8 1, .int .u8 2, .int .u8 3, .int .u8 4, .int .u8 5] 5)); have E7 := Lib.hid (src_five w7); clear ho7 hg7)
          | (at_builtin; refine wpList_append_bytes (o := ⟨some 76, _, _, _, _, _⟩) rfl _ _ 26 rfl rfl rfl D7.out E7.out (by omega) ?_; intro v8 w8 ho8 hg8; have I8 := Lib.hid ho8; have G8 := Lib.hid hg8; clear ho8 hg8)
          | fail)
        have r6 := (G6.out.block wr.heap.size (Nat.lt_trans (lt_row R5.out) (by simp)) (fun e => Nat.lt_irrefl _ (ST.out.at_.lt e).2)).trans ((heap_alloc_old _ _ (lt_row R5.out)).trans R5.out)
        have r7 := (G7.out.block (lt_row r6) (fun e => Nat.lt_irrefl _ (ST.out.bytes.lt e).2)).trans r6
        have r8 := (G8.out.block (k := wr.heap.size) (Nat.lt_trans (lt_row r7) (by simp)) (fun e => by
          rcases G7.out.blk with h | ⟨k, h, hk⟩
          · exact Nat.lt_irrefl _ (ST.out.bytes.lt (h.symm.trans e)).2
          · have e2 : some k = some wr.heap.size := h.symm.trans e
            injection e2 with e2
            have := lt_row r6
            omega)).trans ((heap_alloc_old _ _ (lt_row r7)).trans r7)
        have R8 := Lib.hid r8
        have R6 := Lib.hid r6
        clear r6 r7 r8 x7
        obtain ⟨x0, x1, x2, x3, x4, x5, x6, x7, x8, x9⟩ := cells10 R8.out
        have f6 : w8.frozen? ⟨wr.heap.size, 6, none⟩ = false := frozen_of_row _ _ _ _ _ R8.out
        have f7 : w8.frozen? ⟨wr.heap.size, 7, none⟩ = false := frozen_of_row _ _ _ _ _ R8.out
        clear x0 x1 x2 x3 x4 x5 x8 x9
        go_upto_region 19 with (fail)
        clear x6 x7 f6 f7
        have s6 := rowSet_cell w8 wr.heap.size 6 _ _ (.int .i64 0) R8.out
        have s7 := rowSet_cell _ wr.heap.size 7 _ _ (.int .i64 0) s6.row
        have R9 := Lib.hid s7.row
        have K9 := Lib.hid (fun (k : Nat) (hk : k ≠ wr.heap.size) => s7.keep hk (s6.keep hk rfl))
        have Z9 := Lib.hid (show w8.heap.size = (World.setCell (World.setCell w8 ⟨wr.heap.size, 6, none⟩ (.int .i64 0)) ⟨wr.heap.size, 7, none⟩ (.int .i64 0)).heap.size by rw [World.size_setCell, World.size_setCell])
        have W9 := Lib.hid ((s6.below _ (Nat.le_refl _)).trans (s7.below _ (Nat.le_refl _)))
        clear s6 s7
        generalize World.setCell (World.setCell w8 _ _) _ _ = w9 at *
        obtain ⟨x0, x1, x2, x3, x4, x5, x6, x7, x8, x9⟩ := cells10 R9.out
        have hd9 := ownsRow_keep (w' := w9) ST.out.had (fun k hk hlt => by
          have n7 : ∀ j, j < wr.heap.size → u6.ownBlock = some j → ¬ (u7.ownBlock = some j) := fun j _ h1 h2 => by
            rcases ST.out.ne67 with h | h
            · rw [h] at h1; cases h1
            · exact h (h1.trans h2.symm)
          have n5 : ¬ ((Value.slice a5 (totR L) c5).ownBlock = some k) := fun h2 => by
            rcases ST.out.ne56 with h | h
            · rw [h] at h2; cases h2
            · exact h (h2.trans hk.symm)
          have h5 := H5.out.block k hlt
          have l5 : k < w5.heap.size := Nat.lt_of_lt_of_le hlt H5.out.size
          have h6 := (G6.out.block k (Nat.lt_trans l5 (by simp)) (n7 k hlt hk)).trans (heap_alloc_old _ _ l5)
          have l6 : k < w6.heap.size := Nat.lt_of_lt_of_le (Nat.lt_trans l5 (by simp)) G6.out.size
          have h7 := G7.out.block l6 n5
          have l7 : k < w7.heap.size := Nat.lt_of_lt_of_le l6 G7.out.grown.size
          have h8 := (G8.out.block (k := k) (Nat.lt_trans l7 (by simp)) (fun e => by
            rcases G7.out.blk with h | ⟨q, h, hq⟩
            · exact n5 (h.symm.trans e)
            · have e2 : some q = some k := h.symm.trans e
              injection e2 with e2
              omega)).trans (heap_alloc_old _ _ l7)
          exact (K9.out k (by omega)).trans (h8.trans (h7.trans (h6.trans h5))))
        have HD9 := Lib.hid hd9
        clear hd9
        obtain ⟨i0, hi0, hz0, hz1, hz2⟩ := info_hd
        have news : ∀ j u, (hdC k3 v D S ⟨#[]⟩ (↑zn + 5) 0 0 false (.slice ga 0 gc)).toList[j]? = some u → (w9.alloc (.cells (hdC k3 v D S ⟨#[]⟩ (↑zn + 5) 0 0 false (.slice ga 0 gc)) 63)).cell? (Addr.add ⟨w9.heap.size, 0, none⟩ j) = some u := fun j u hj => by
          rw [show Addr.add ⟨w9.heap.size, 0, none⟩ j = ⟨w9.heap.size, j, none⟩ by simp [Addr.add]; exact fun h => h.symm]
          rw [cell_of_row _ _ _ _ _ _ (heap_alloc_last w9 _)]
          simpa using hj
        have hll : L.length ≤ 8 := by omega
        unfold hdC at news
        iterate 10 go_step
        refine wpList_append_own _ (o := ⟨some 82, _, _, _, _, _⟩) rfl _ _ 81 rfl w1.heap.size 63 i0 _ 10 i0.bytes Tryd.underlying81 hi0 hz0 hz1 rfl rfl (by decide) _ L.length _ rfl (HD9.out.alloc _) ⟨w9.heap.size, 0, none⟩ 1 1 _ rfl rfl news (List.all_eq_true.mp rfl) (by unfold maxLen; omega) (by have := Nat.mul_le_mul (show L.length + 1 ≤ 9 by omega) hz2; omega) (by have := BL.out.size; have := lt_row R9.out; simp; omega) ?_
        intro v10 w10 ho10 hg10 _
        have O10 := Lib.hid ho10
        have G10 := Lib.hid hg10
        clear ho10 hg10 news x0 x1 x2 x3 x4 x5 x6 x7 x8 x9 hi0 hz0 hz1 hz2
        have GC : gc ≤ maxLen := by 
          obtain ⟨_, _, e, hc, _⟩ := IG3.out.at_
          injection e with _ _ e
          rw [e]; exact hc.2
        go_upto_region 20 with (fail)
        case roundEnd =>
          have gr := ST.out.grow (r := ⟨k3, v, D, S, zn, m, ga, gc, X⟩) ⟨HP.out, GC⟩ H5.out I6.out rfl G6.out A6.out R6.out I7.out G7.out G8.out (by rw [← Nat.add_assoc]; exact I8.out) (fun i hi => catR_join low L ⟨k3, v, D, S, zn, m, ga, gc, X⟩ (Nat.lt_of_le_of_lt (Nat.zero_le _) hzm) i hi) R8.out W9.out K9.out HD9.out G10.out O10.out
          exact ⟨⟨i + 1, by omega, by omega, L ++ [⟨k3, v, D, S, zn, m, ga, gc, X⟩], by rw [List.length_append, List.length_singleton]; omega, by omega, gr.1, BL.out.trans gr.2⟩, by simp only [intOf]; omega⟩
      · obtain ⟨aq, cq, rfl, _⟩ := L3.out.at_
        have PB := Lib.hid (put_bad k3 v lz N z D S ⟨#[]⟩ D.size S.size 0 rfl rfl rfl ph aq cq G w3 L3.out hio)
        unfold hdC at PB
        go_wp2_with fail
        with_reducible refine PB.out.mono ?_
        rintro e w4 ⟨rfl, hb4⟩
        have H4 := Lib.hid (H3.out.trans (hb4.mono H3.out.size))
        clear hb4 PB
        go_upto_region 20 with (fail)
        case roundEnd =>
          exact ⟨⟨i + 1, L, by omega, by omega, by omega, by congr 1, ST.out.later H4.out, BL.out.trans (H4.out.mono BL.out.size)⟩, by simp only [intOf]; omega⟩
    · have hle := totR_le L ST.out.ok
      have hl8 : L.length ≤ 8 := by omega
      obtain ⟨a5, c5, rfl, hc5, hm5, hB5⟩ := ST.out.bytes.asIn
      have BI := Lib.hid hB5
      clear hB5
      have hcase : ¬ (i : Int) < (n : Int) ∨ ((i : Int) < (n : Int) ∧ ¬ (i : Int) < 8) := by omega
      clear hlt
      obtain h1 | ⟨h1, h2⟩ := hcase
      all_goals
        go_upto_region 22 with (fail)
        go_loopw [12, 13] (fun s12 s13 w' => ∃ j : Nat, j ≤ L.length ∧ s12 = .int .i64 ((totR (L.take j) : Nat) : Int) ∧ s13 = .int .i64 (j : Int) ∧ Below wr.heap.size wr w') (fun _ s13 _ => L.length - (intOf s13).toNat)
        case atStart => exact ⟨0, Nat.zero_le _, by simp [totR], rfl, Below.refl _ _⟩
        case round =>
          obtain ⟨j, hj, rfl, rfl, bel2⟩ := hrel
          have S2 := Lib.hid (ST.out.later bel2)
          have E2 := Lib.hid (BL.out.trans (bel2.mono BL.out.size))
          have BI2 := Lib.hid (bytesIn_later BI.out bel2)
          have IN2 := Lib.hid bel2
          clear bel2
          by_cases hjl : j < L.length
          · obtain ⟨g6, k6, rfl, hg6, hc6⟩ := had_at S2.out.had hjl
            obtain ⟨g7, o7, k7, rfl, hc7⟩ := S2.out.at_.at (i := j) (by rw [atR_len]; exact hjl)
            have hg7 := (S2.out.at_.lt rfl).2
            have hrow := row_get low L (fun r hr => (ST.out.ok r hr).1) j hjl
            have htk := totR_take L j hjl
            have hat := atR_at L j hjl 0
            rw [hat] at hc7
            rw [atR_len] at *
            have hok := (ST.out.ok _ (List.getElem_mem hjl)).1
            have hrc := (ST.out.ok _ (List.getElem_mem hjl)).2
            obtain ⟨r, hr⟩ : ∃ r, L[j] = r := ⟨_, rfl⟩
            obtain ⟨s, hs⟩ : ∃ s, totR (L.take j) = s := ⟨_, rfl⟩
            rw [hr] at hc6 hrow htk hc7 hok hrc
            rw [hs] at hrow htk hc7 ⊢
            clear hr hat
            obtain ⟨_, _, _, hz, h3⟩ := hok
            obtain ⟨k, v, D, S, z, m, ra, rc, X⟩ := r
            dsimp only at hc6 hrow htk hc7 hz h3 hrc
            rw [Nat.zero_add] at hc7
            obtain ⟨ht1, ht2⟩ := htk
            obtain ⟨a', hsl, ha1, _⟩ := run_from a5 s (totR L) c5 (by omega)
            have hB' := bytesIn_cut (n := totR L - s) BI2.out (by omega) hc5 ha1
            have gt := get_packet (fun i => catR low L (s + i)) a' (totR L - s) (c5 - s) 8 wr hB' (by omega) (by omega)
            rw [hrow] at gt
            have GT := Lib.hid gt
            have CX := Lib.hid (fun (w' : World) (hb : Below wr.heap.size wr w') => (show w'.cell? ⟨g6, j * 10, none⟩ = some (.int .i64 k) ∧ w'.cell? ⟨g6, j * 10 + 1, none⟩ = some (.int .i64 v) ∧ w'.cell? ⟨g6, j * 10 + 2, none⟩ = some (.string D) ∧ w'.cell? ⟨g6, j * 10 + 3, none⟩ = some (.string S) ∧ w'.cell? ⟨g6, j * 10 + 4, none⟩ = some (.string ⟨#[]⟩) ∧ w'.cell? ⟨g6, j * 10 + 5, none⟩ = some (.int .i64 (↑z + 5)) ∧ w'.cell? ⟨g6, j * 10 + 6, none⟩ = some (.int .i64 0) ∧ w'.cell? ⟨g6, j * 10 + 7, none⟩ = some (.int .i64 0) ∧ w'.cell? ⟨g6, j * 10 + 8, none⟩ = some (.bool false) ∧ w'.cell? ⟨g6, j * 10 + 9, none⟩ = some (.slice ra 0 rc) from
              ⟨(hb.cell (p := ⟨g6, j * 10, none⟩) hg6).trans (hc6 0 (by omega)), (hb.cell (p := ⟨g6, j * 10 + 1, none⟩) hg6).trans (hc6 1 (by omega)), (hb.cell (p := ⟨g6, j * 10 + 2, none⟩) hg6).trans (hc6 2 (by omega)), (hb.cell (p := ⟨g6, j * 10 + 3, none⟩) hg6).trans (hc6 3 (by omega)), (hb.cell (p := ⟨g6, j * 10 + 4, none⟩) hg6).trans (hc6 4 (by omega)), (hb.cell (p := ⟨g6, j * 10 + 5, none⟩) hg6).trans (hc6 5 (by omega)), (hb.cell (p := ⟨g6, j * 10 + 6, none⟩) hg6).trans (hc6 6 (by omega)), (hb.cell (p := ⟨g6, j * 10 + 7, none⟩) hg6).trans (hc6 7 (by omega)), (hb.cell (p := ⟨g6, j * 10 + 8, none⟩) hg6).trans (hc6 8 (by omega)), (hb.cell (p := ⟨g6, j * 10 + 9, none⟩) hg6).trans (hc6 9 (by omega))⟩))
            have CA := Lib.hid (fun (w' : World) (hb : Below wr.heap.size wr w') => (hb.cell (p := ⟨g7, o7 + j, none⟩) hg7).trans hc7)
            have IR := Lib.hid (fun (w' : World) => (show IntsIn w' (.slice ra ([] : List Int).length rc) [] from ⟨⟨ra, rc, rfl, ⟨Nat.zero_le _, hrc⟩, fun i hi => absurd hi (Nat.not_lt_zero _)⟩⟩))
            have FA := Lib.hid (fun (aL : Option Addr) (cL : Nat) (w' : World) => from_any k v ((z : Int) + 5) 0 0 D S ⟨#[]⟩ false aL 0 cL w')
            have SY := Lib.hid (fun (a1 : Option Addr) (c1 : Nat) (w' : World) => same_yes k v ((z : Int) + 5) 0 0 D S ⟨#[]⟩ false a1 ra c1 rc [] w')
            simp only [List.length_nil] at SY
            unfold hdC at FA SY
            have hj8 : (j : Int) < (L.length : Int) := by omega
            have hb12 : (s : Int) + ((m : Int) + 5) ≤ 24040 := by omega
            have hzm : (z : Int) < (m : Int) := by omega
            have hm3 : (m : Int) ≤ 3000 := by omega
            clear gt hB' hc6 hc7 hg6 hg7 hrow hrc ha1 hz h3 ht2
            go_upto_region 24 with (fail)
            go_wp2_with fail
            with_reducible refine GT.out.mono ?_
            rintro e w7 ⟨aL, cL, rfl, _, hI7, hb7⟩
            clear hsl GT
            dsimp only [Got.header]
            unfold hdC
            simp only [List.length_nil]
            rw [show ((m - z + (z + 5) : Nat) : Int) = (m : Int) + 5 by omega, show ((m - z : Nat) : Int) = (m : Int) - (z : Int) by omega]
            iterate 16 go_step
            refine wpList_alloc_row rfl 66 rfl _ hd_zero ?_
            simp only [Act.put, List.setIfInBounds_toArray, List.set_cons_succ, List.set_cons_zero]
            refine wpList_store_row rfl 66 (.tmp 14) (.tmp 94) rfl w7.heap.size 66 _ (hdC k v D S ⟨#[]⟩ (↑z + 5) 0 0 false (.slice aL 0 cL)) rfl rfl (heap_alloc_last _ _) rfl (by kernel_rfl) (hdC_one' _ _ _ _ _ _ _ _ _ _ _ _) ?_
            intro w8 rs
            simp only [Act.put, List.setIfInBounds_toArray, List.set_cons_succ, List.set_cons_zero]
            have R8 := Lib.hid rs.row
            have I8 := Lib.hid (hI7.later (((Below.refl w7.heap.size w7).alloc (Nat.le_refl _) _).trans (rs.below w7.heap.size (Nat.le_refl _))))
            have H8 := Lib.hid (hb7.trans ((((Below.refl w7.heap.size w7).alloc (Nat.le_refl _) _).trans (rs.below w7.heap.size (Nat.le_refl _))).mono hb7.size))
            clear rs hI7 hb7
            have q8 := lt_row R8.out
            go_upto_region 25 with (fail)
            refine region_class1 32 (fun w' => Below w8.heap.size w8 w') mixedOrders (by kernel_rfl) (Below.refl _ _).drew rfl ?_
            refine wpQuiet_take (by rfl) (fun K hK => ⟨.int .i64 0, fun w2' hw2 => ?_, hK _ ?_⟩)
            · clear hw2; go_simp
            clear hK K
            simp only [Act.put, List.setIfInBounds_toArray, List.set_cons_succ, List.set_cons_zero]
            refine wpQuiet_take (by rfl) (fun K hK => ⟨.bool false, fun w2' hw2 => ?_, hK _ ?_⟩)
            · clear hw2; go_simp
            clear hK K
            simp only [Act.put, List.setIfInBounds_toArray, List.set_cons_succ, List.set_cons_zero]
            refine wpQuiet_take (by rfl) (fun K hK => ⟨.bool false, fun w2' hw2 => ?_, hK _ ?_⟩)
            · clear hw2; go_simp
            clear hK K
            simp only [Act.put, List.setIfInBounds_toArray, List.set_cons_succ, List.set_cons_zero]
            refine wpQuiet_take (by rfl) (fun K hK => ⟨.agg #[.int .i64 k, .int .i64 v, .string D, .string S, .string ⟨#[]⟩, .int .i64 (↑z + 5), .int .i64 0, .int .i64 0, .bool false, .slice aL 0 cL], fun w2' hw2 => ?_, hK _ ?_⟩)
            · obtain ⟨d0, d1, d2, d3, d4, d5, d6, d7, d8, d9⟩ := cells10 ((hw2.block _ q8).trans R8.out)
              clear hw2
              go_simp
            clear hK K
            simp only [Act.put, List.setIfInBounds_toArray, List.set_cons_succ, List.set_cons_zero]
            refine wpQuiet_take (by rfl) (fun K hK => ⟨.agg #[.int .i64 k, .int .i64 v, .string D, .string S, .string ⟨#[]⟩, .int .i64 (↑z + 5), .int .i64 0, .int .i64 0, .bool false, .slice aL 0 cL], fun w2' hw2 => ?_, hK _ ?_⟩)
            · go_simp
              go_at_call 39
              refine (FA.out aL cL w2').mono ?_
              rintro e w5 ⟨rfl, hb5⟩
              exact ⟨rfl, hw2.trans (hb5.mono hw2.size)⟩
            clear hK K
            simp only [Act.put, List.setIfInBounds_toArray, List.set_cons_succ, List.set_cons_zero]
            refine wpQuiet_take (by rfl) (fun K hK => ⟨.slice (some ⟨g6, 0, none⟩) L.length k6, fun w2' hw2 => ?_, hK _ ?_⟩)
            · clear hw2; go_simp
            clear hK K
            simp only [Act.put, List.setIfInBounds_toArray, List.set_cons_succ, List.set_cons_zero]
            refine wpQuiet_take (by rfl) (fun K hK => ⟨.int .i64 (j : Int), fun w2' hw2 => ?_, hK _ ?_⟩)
            · clear hw2; go_simp
            clear hK K
            simp only [Act.put, List.setIfInBounds_toArray, List.set_cons_succ, List.set_cons_zero]
            refine wpQuiet_take (by rfl) (fun K hK => ⟨.pointer (some ⟨g6, j * 10, none⟩), fun w2' hw2 => ?_, hK _ ?_⟩)
            · clear hw2; go_simp
            clear hK K
            simp only [Act.put, List.setIfInBounds_toArray, List.set_cons_succ, List.set_cons_zero]
            refine wpQuiet_take (by rfl) (fun K hK => ⟨.agg #[.int .i64 k, .int .i64 v, .string D, .string S, .string ⟨#[]⟩, .int .i64 (↑z + 5), .int .i64 0, .int .i64 0, .bool false, .slice ra 0 rc], fun w2' hw2 => ?_, hK _ ?_⟩)
            · obtain ⟨d0, d1, d2, d3, d4, d5, d6, d7, d8, d9⟩ := CX.out w2' (H8.out.trans (hw2.mono H8.out.size))
              clear hw2
              go_simp
            clear hK K
            simp only [Act.put, List.setIfInBounds_toArray, List.set_cons_succ, List.set_cons_zero]
            refine wpQuiet_take (by rfl) (fun K hK => ⟨.bool true, fun w2' hw2 => ?_, hK _ ?_⟩)
            · go_simp
              go_at_call 38
              refine (SY.out aL cL w2' (I8.out.later hw2) (IR.out w2')).mono ?_
              rintro e w5 ⟨rfl, hb5⟩
              exact ⟨rfl, hw2.trans (hb5.mono hw2.size)⟩
            clear hK K
            simp only [Act.put, List.setIfInBounds_toArray, List.set_cons_succ, List.set_cons_zero]
            refine wpQuiet_take (by rfl) (fun K hK => ⟨.bool false, fun w2' hw2 => ?_, hK _ ?_⟩)
            · clear hw2; go_simp
            clear hK K
            simp only [Act.put, List.setIfInBounds_toArray, List.set_cons_succ, List.set_cons_zero]
            refine wpQuiet_take (by rfl) (fun K hK => ⟨.bool false, fun w2' hw2 => ?_, hK _ ?_⟩)
            · clear hw2; go_simp
            clear hK K
            simp only [Act.put, List.setIfInBounds_toArray, List.set_cons_succ, List.set_cons_zero]
            refine wpQuiet_take (by rfl) (fun K hK => ⟨.bool false, fun w2' hw2 => ?_, hK _ ?_⟩)
            · clear hw2; go_simp
            clear hK K
            simp only [Act.put, List.setIfInBounds_toArray, List.set_cons_succ, List.set_cons_zero]
            refine wpQuiet_take (by rfl) (fun K hK => ⟨.int .i64 (s : Int), fun w2' hw2 => ?_, hK _ ?_⟩)
            · clear hw2; go_simp
            clear hK K
            simp only [Act.put, List.setIfInBounds_toArray, List.set_cons_succ, List.set_cons_zero]
            refine wpQuiet_take (by rfl) (fun K hK => ⟨.int .i64 (↑m - ↑z), fun w2' hw2 => ?_, hK _ ?_⟩)
            · clear hw2; go_simp
            clear hK K
            simp only [Act.put, List.setIfInBounds_toArray, List.set_cons_succ, List.set_cons_zero]
            refine wpQuiet_take (by rfl) (fun K hK => ⟨.int .i64 (↑s + ↑m - ↑z), fun w2' hw2 => ?_, hK _ ?_⟩)
            · clear hw2; go_simp; rw [IntKind.wrap_i64]; omega
            clear hK K
            simp only [Act.put, List.setIfInBounds_toArray, List.set_cons_succ, List.set_cons_zero]
            refine wpQuiet_take (by rfl) (fun K hK => ⟨.slice (some ⟨g7, o7, none⟩) L.length k7, fun w2' hw2 => ?_, hK _ ?_⟩)
            · clear hw2; go_simp
            clear hK K
            simp only [Act.put, List.setIfInBounds_toArray, List.set_cons_succ, List.set_cons_zero]
            refine wpQuiet_take (by rfl) (fun K hK => ⟨.int .i64 (j : Int), fun w2' hw2 => ?_, hK _ ?_⟩)
            · clear hw2; go_simp
            clear hK K
            simp only [Act.put, List.setIfInBounds_toArray, List.set_cons_succ, List.set_cons_zero]
            refine wpQuiet_take (by rfl) (fun K hK => ⟨.pointer (some ⟨g7, o7 + j, none⟩), fun w2' hw2 => ?_, hK _ ?_⟩)
            · clear hw2; go_simp
            clear hK K
            simp only [Act.put, List.setIfInBounds_toArray, List.set_cons_succ, List.set_cons_zero]
            refine wpQuiet_take (by rfl) (fun K hK => ⟨.int .i64 (↑s + ↑m - ↑z), fun w2' hw2 => ?_, hK _ ?_⟩)
            · have d0 := CA.out w2' (H8.out.trans (hw2.mono H8.out.size))
              clear hw2
              go_simp
            clear hK K
            simp only [Act.put, List.setIfInBounds_toArray, List.set_cons_succ, List.set_cons_zero]
            refine wpQuiet_take (by rfl) (fun K hK => ⟨.bool false, fun w2' hw2 => ?_, hK _ ?_⟩)
            · clear hw2; go_simp
            clear hK K
            simp only [Act.put, List.setIfInBounds_toArray, List.set_cons_succ, List.set_cons_zero]
            refine wpQuiet_take (by rfl) (fun K hK => ⟨.bool false, fun w2' hw2 => ?_, hK _ ?_⟩)
            · clear hw2; go_simp
            clear hK K
            simp only [Act.put, List.setIfInBounds_toArray, List.set_cons_succ, List.set_cons_zero]
            refine wpQuiet_take (by rfl) (fun K hK => ⟨.bool false, fun w2' hw2 => ?_, hK _ ?_⟩)
            · clear hw2; go_simp
            clear hK K
            simp only [Act.put, List.setIfInBounds_toArray, List.set_cons_succ, List.set_cons_zero]
            refine wpQuiet_take (by rfl) (fun K hK => ⟨.int .i64 (↑m + 5), fun w2' hw2 => ?_, hK _ ?_⟩)
            · clear hw2; go_simp
            clear hK K
            simp only [Act.put, List.setIfInBounds_toArray, List.set_cons_succ, List.set_cons_zero]
            refine wpQuiet_take (by rfl) (fun K hK => ⟨.int .i64 (↑m - ↑z), fun w2' hw2 => ?_, hK _ ?_⟩)
            · clear hw2; go_simp
            clear hK K
            simp only [Act.put, List.setIfInBounds_toArray, List.set_cons_succ, List.set_cons_zero]
            refine wpQuiet_take (by rfl) (fun K hK => ⟨.slice (some ⟨g6, 0, none⟩) L.length k6, fun w2' hw2 => ?_, hK _ ?_⟩)
            · clear hw2; go_simp
            clear hK K
            simp only [Act.put, List.setIfInBounds_toArray, List.set_cons_succ, List.set_cons_zero]
            refine wpQuiet_take (by rfl) (fun K hK => ⟨.int .i64 (j : Int), fun w2' hw2 => ?_, hK _ ?_⟩)
            · clear hw2; go_simp
            clear hK K
            simp only [Act.put, List.setIfInBounds_toArray, List.set_cons_succ, List.set_cons_zero]
            refine wpQuiet_take (by rfl) (fun K hK => ⟨.pointer (some ⟨g6, j * 10, none⟩), fun w2' hw2 => ?_, hK _ ?_⟩)
            · clear hw2; go_simp
            clear hK K
            simp only [Act.put, List.setIfInBounds_toArray, List.set_cons_succ, List.set_cons_zero]
            refine wpQuiet_take (by rfl) (fun K hK => ⟨.pointer (some ⟨g6, j * 10 + 5, none⟩), fun w2' hw2 => ?_, hK _ ?_⟩)
            · clear hw2; go_simp
            clear hK K
            simp only [Act.put, List.setIfInBounds_toArray, List.set_cons_succ, List.set_cons_zero]
            refine wpQuiet_take (by rfl) (fun K hK => ⟨.int .i64 (↑z + 5), fun w2' hw2 => ?_, hK _ ?_⟩)
            · obtain ⟨d0, d1, d2, d3, d4, d5, d6, d7, d8, d9⟩ := CX.out w2' (H8.out.trans (hw2.mono H8.out.size))
              clear hw2
              go_simp
            clear hK K
            simp only [Act.put, List.setIfInBounds_toArray, List.set_cons_succ, List.set_cons_zero]
            refine wpQuiet_take (by rfl) (fun K hK => ⟨.int .i64 (↑m + 5), fun w2' hw2 => ?_, hK _ ?_⟩)
            · clear hw2; go_simp; rw [IntKind.wrap_i64]; omega
            clear hK K
            simp only [Act.put, List.setIfInBounds_toArray, List.set_cons_succ, List.set_cons_zero]
            refine wpQuiet_take (by rfl) (fun K hK => ⟨.bool false, fun w2' hw2 => ?_, hK _ ?_⟩)
            · clear hw2; go_simp
            clear hK K
            simp only [Act.put, List.setIfInBounds_toArray, List.set_cons_succ, List.set_cons_zero]
            refine wpQuiet_take0 ?_
            intro w11 hb11
            have H11 := Lib.hid (H8.out.trans (hb11.mono H8.out.size))
            clear hb11 H8 R8 I8 q8
            go_upto_region 28 with (fail)
            case roundEnd =>
              exact ⟨⟨j + 1, by omega, by rw [ht1]; congr 1, by congr 1, IN2.out.trans (H11.out.mono IN2.out.size)⟩, by simp only [intOf]; omega⟩
          · obtain ⟨a6, c6, rfl⟩ := had_slice S2.out.had
            have e : L.take j = L := List.take_of_length_le (by omega)
            have hj8 : ¬ (j : Int) < (L.length : Int) := by omega
            rw [e]
            go_wp2_with fail
            go_ret
            exact ⟨by simp, B1.out.trans (E2.out.mono B1.out.size)⟩
end Go.Proofs.YtcgbhcmgddgheaaDoor
