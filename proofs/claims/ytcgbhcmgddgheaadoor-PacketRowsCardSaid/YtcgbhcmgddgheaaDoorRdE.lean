/-
  PACKET's getLong.
-/
import Derived.Test.YtcgbhcmgddgheaaDoorRdD
import Derived.Test.YtcgbhcmgddgheaaDoorPackM
namespace Go.Proofs.YtcgbhcmgddgheaaDoor
open Go Go.RowKit Go.BigFrame
set_option linter.unusedSimpArgs false
set_option linter.unusedVariables false
set_option maxRecDepth 100000
/-- What Get answers. -/
structure Got where
  k : Int
  v : Int
  D : ByteArray
  S : ByteArray
  T : ByteArray
  l : Int
  G : List Int
  at_ : Nat
  en : Nat
  e : Int
def Got.no (e : Int) : Got := ⟨0, 0, ⟨#[]⟩, ⟨#[]⟩, ⟨#[]⟩, 0, [], 0, 0, e⟩
def Got.header (g : Got) (L : Value) : Value := .agg (hdC g.k g.v g.D g.S g.T g.l 0 0 false L)
/-- An answer as a value. -/
def GotPost (g : Got) (w : World) (x : Ending) (w' : World) : Prop :=
  ∃ aL cL, x = .returned (.tuple #[g.header (.slice aL g.G.length cL), .int .i64 (g.at_ : Int), .int .i64 (g.en : Int), .int .i64 g.e]) ∧ (∀ y, aL = some y → w.heap.size ≤ y.block) ∧ IntsIn w' (.slice aL g.G.length cL) g.G ∧ Below w.heap.size w w'
/-- Behind all parts: the packet's end. -/
def longEnd (len : Nat) (k v : Int) (D S T : ByteArray) (l : Nat) (G : List Int) (p : Nat) (e : Int) : Got :=
  if tkE len p e l = 0 then ⟨k, v, D, S, T, l, G, p, p + tkN len p e l, 0⟩ else Got.no (tkE len p e l)
/-- Behind the names: what hangs on the kind. -/
def longKind (f : Nat → BitVec 8) (len : Nat) (kd V : Nat) (D S : ByteArray) (p : Nat) (e : Int) : Got :=
  if V = 0 then longEnd len 5 (V : Int) D S ⟨#[]⟩ 0 (if vsE len p e = 0 then vsG f p ((len - p) / 4) else []) (if vsE len p e = 0 then len else p) (vsE len p e)
  else if kd = 3 then longEnd len 3 (V : Int) D S (strOf (fun i => f (p + i)) (txN len p (len - p) 512 e)) 0 [] (p + txN len p (len - p) 512 e) (txE len p (len - p) 512 e)
  else if kd = 0 then
    longEnd len 0 (V : Int) D S (strOf (fun i => f (ctP len f p e + i)) (txN len (ctP len f p e) (ctV len f p 512 e) 512 (ctE len f p 512 e)))
      (ctV len f (ctP len f p e + txN len (ctP len f p e) (ctV len f p 512 e) 512 (ctE len f p 512 e)) 16383 (txE len (ctP len f p e) (ctV len f p 512 e) 512 (ctE len f p 512 e))) []
      (ctP len f (ctP len f p e + txN len (ctP len f p e) (ctV len f p 512 e) 512 (ctE len f p 512 e)) (txE len (ctP len f p e) (ctV len f p 512 e) 512 (ctE len f p 512 e)))
      (ctE len f (ctP len f p e + txN len (ctP len f p e) (ctV len f p 512 e) 512 (ctE len f p 512 e)) 16383 (txE len (ctP len f p e) (ctV len f p 512 e) 512 (ctE len f p 512 e)))
  else longEnd len kd (V : Int) D S ⟨#[]⟩ (ctV len f p 16383 e) [] (ctP len f p e) (ctE len f p 16383 e)
def long (f : Nat → BitVec 8) (len : Nat) : Got :=
  longKind f len (f 0 >>> 4 &&& 3#8).toNat (numG (fun i => f (1 + i)) (tkN len 1 0 4))
    (nmS len f (1 + tkN len 1 0 4) (tkE len 1 0 4)) (nmS len f (nmP len f (1 + tkN len 1 0 4) (tkE len 1 0 4)) (nmE len f (1 + tkN len 1 0 4) (tkE len 1 0 4)))
    (nmP len f (nmP len f (1 + tkN len 1 0 4) (tkE len 1 0 4)) (nmE len f (1 + tkN len 1 0 4) (tkE len 1 0 4))) (nmE len f (nmP len f (1 + tkN len 1 0 4) (tkE len 1 0 4)) (nmE len f (1 + tkN len 1 0 4) (tkE len 1 0 4)))
theorem Rd.make {w w' : World} {b : Nat} {a : Option Addr} {len cap : Nat} {f : Nat → BitVec 8} (p : Nat) (hp : p ≤ len) (hB : BytesIn w a len f) (hlc : len ≤ cap) (hcm : cap ≤ maxLen) (hb : Below w.heap.size w w') (ha : ∀ x, a = some x → x.block ≠ b)
    (h : w'.heap[b]? = some (.cells (rdC a len cap p 0) 115 (0, 0))) : Rd w' b a len cap f p 0 := by
  refine ⟨h, ⟨hB.1, ?_⟩, hlc, hcm, hp, ha⟩
  rcases hB.2 with h0 | ⟨k, o, e1, hk, hc⟩
  · exact .inl h0
  · exact .inr ⟨k, o, e1, Nat.lt_of_lt_of_le hk hb.size, fun i hi => by rw [hb.cell (p := ⟨k, o + i, none⟩) hk]; exact hc i hi⟩
theorem take_at {w : World} {b : Nat} {a : Option Addr} {len cap : Nat} {f : Nat → BitVec 8} {p : Nat} {e : Int} (h : Rd w b a len cap f p e) (n : Nat) (z : Int) (hz : z = (n : Int)) :
    Calls Tryd.prog 82 #[.pointer (some ⟨b, 0, none⟩), .int .i64 z] w (TkPost b a len cap f w p (tkN len p e n) (p + tkN len p e n) (tkE len p e n)) := by
  subst hz
  exact take_any h n
theorem quiet_value2 {P : Program} {C : World → Prop} {o : Oper} {a : Act} {w : World} {v : Value} (h : (execOp a.eval o).run P w = .ok (.value v) w) (hw : C w) : o.quietAt P a C w v := by
  unfold Oper.quietAt
  rw [h]
  first | exact ⟨rfl, hw⟩ | exact ⟨rfl, rfl⟩
theorem step_store_row {P : Program} {op : Oper} {a : Act} {w : World} {K : Act → World → Prop} {Q : Exit → Act → World → Prop} (ty : TypeId) (x y : Operand) (ho : op.op = .store ty x y)
    (B : Nat) (T : TypeId) (cs cells : Array Value) (hx : a.eval x = .pointer (some ⟨B, 0, none⟩)) (hy : a.eval y = .agg cells)
    (hg : w.heap[B]? = some (.cells cs T (0, 0))) (hs : cs.size = cells.size) (hi : (P.info? ty).map (·.size) = some cells.size) (h1 : cells.all (·.oneCell') = true)
    (h : ∀ w', RowSet w B T cells w' → K (a.put op.dst undef) w') : Oper.wp P op a w K Q := by
  refine wp_store_mid ty x y ho B 0 cells hx hy (fun j hj => ?_) hi h1 (h _ (rowSet_store w B T cs cells hg hs))
  rw [Nat.zero_add]
  refine ⟨?_, frozen_of_row _ _ _ _ _ hg⟩
  rw [cell_of_row _ _ _ _ _ _ hg, Array.getElem?_eq_getElem (by omega)]
  rfl
/-- A header's row. -/
def HdAt (w : World) (H : Nat) (k v : Int) (D S T : ByteArray) (l : Int) (L : Value) : Prop := w.heap[H]? = some (.cells (hdC k v D S T l 0 0 false L) 66 (0, 0))
theorem quiet_run {P : Program} {x : Sem Value} {v : Value} {w : World} (h : x.run P w = .ok v w) : (x >>= fun v => pure (Next.value v)).run P w = .ok (.value v) w := by
  rw [Sem.run_bind, h]; rfl
theorem hdC_one (k v : Int) (D S T : ByteArray) (l : Int) (aL : Option Addr) (m cL : Nat) : (hdC k v D S T l 0 0 false (.slice aL m cL)).all (·.oneCell') = true := by
  simp [hdC, Value.oneCell']
theorem load_hd {w : World} {H : Nat} {k v : Int} {D S T : ByteArray} {l : Int} {L : Value} (h : HdAt w H k v D S T l L) : (Instr.loadAt 66 (.pointer (some ⟨H, 0, none⟩))).run Tryd.prog w = .ok (.agg (hdC k v D S T l 0 0 false L)) w := by
  have h1 := run_loadAt_mid (P := Tryd.prog) w H 0 66 (hdC k v D S T l 0 0 false L).toList _ (fun j u hj => by
    rw [Nat.zero_add, cell_of_row _ _ _ _ _ _ h]
    simpa using hj) Tryd.underlying66 rfl (by kernel_rfl)
  simpa using h1
theorem results_hd {fn : Func} {p t1 t2 t3 : Tmp} {ty : TypeId} (hf : fn.results = #[.cell p ty, .tmp t1, .tmp t2, .tmp t3]) (tmps : Array Value) (w : World) (g : Nat) (t : TypeId) (cs : Array Value) (fr : Nat × Nat) (d : TypeDesc)
    (hp : tmps.getD p undef = .pointer (some ⟨g, 0, none⟩)) (hg : w.heap[g]? = some (.cells cs t fr))
    (hu : Tryd.prog.underlying ty = some d) (hd : ∃ fs, d = .struct fs) (hi : (Tryd.prog.info? ty).map (·.size) = some cs.size) :
    (results fn tmps).run Tryd.prog w = .ok (.tuple #[.agg cs, tmps.getD t1 undef, tmps.getD t2 undef, tmps.getD t3 undef]) w := by
  have hp' : tmps[p]?.getD undef = .pointer (some ⟨g, 0, none⟩) := by simpa using hp
  obtain ⟨fs, rfl⟩ := hd
  simp [results, hf, hp', asAddr, run_loadVar_row w g t ty cs fr _ hg hu rfl hi]
/-- What a drawn region's reads want: the header, where the reader stands. -/
def Kept (n PE : Nat) (c : Array Value) (w : World) : Prop := w.heap[n + 2]? = some (.cells c 66 (0, 0)) ∧ w.cell? ⟨n + 1, 1, none⟩ = some (.int .i64 (PE : Int))
theorem load_hd0 {w : World} {H : Nat} {k v : Int} {D S T : ByteArray} {l : Int} {L : Value} (h : HdAt w H k v D S T l L) : (Instr.loadAt 66 (.pointer (some ⟨H, 0, none⟩)) >>= fun v => pure (Next.value v)).run Tryd.prog w = .ok (.value (.agg (hdC k v D S T l 0 0 false L))) w := quiet_run (load_hd (w := w) h)
theorem build_hd (w : World) : (Instr.build 66 #[] >>= fun v => pure (Next.value v)).run Tryd.prog w = .ok (.value (.agg (hdC 0 0 ⟨#[]⟩ ⟨#[]⟩ ⟨#[]⟩ 0 0 0 false (.slice none 0 0)))) w :=
  quiet_run (run_build w _ _ _ (by kernel_rfl))
theorem build_hd0 (w : World) : (Instr.build 66 #[]).run Tryd.prog w = .ok (.agg (hdC 0 0 ⟨#[]⟩ ⟨#[]⟩ ⟨#[]⟩ 0 0 0 false (.slice none 0 0))) w := run_build w _ _ _ (by kernel_rfl)
/-- Where getLong stands: the reader, the header, the result's row. -/
structure LSt (w0 : World) (n : Nat) (a : Option Addr) (len cap : Nat) (f : Nat → BitVec 8) (w : World) (p : Nat) (e : Int) (k v : Int) (D S T : ByteArray) (l : Int) (L : Value) : Prop where
  rd : Rd w (n + 1) a len cap f p e
  hd : HdAt w (n + 2) k v D S T l L
  rs : HdAt w n 0 0 ⟨#[]⟩ ⟨#[]⟩ ⟨#[]⟩ 0 (.slice none 0 0)
  bl : Below n w0 w
section
variable {w0 w w' : World} {n : Nat} {a : Option Addr} {len cap : Nat} {f : Nat → BitVec 8} {p p' : Nat} {e e' : Int} {k v : Int} {D S T : ByteArray} {l : Int} {L : Value}
theorem LSt.step (h : LSt w0 n a len cap f w p e k v D S T l L) (hr : Rd w' (n + 1) a len cap f p' e') (hc : Chg (n + 1) w w') : LSt w0 n a len cap f w' p' e' k v D S T l L :=
  ⟨hr, hc.row (by omega) h.hd, hc.row (by omega) h.rs, h.bl.trans (hc.below (by omega) (by have := lt_row h.rs; omega))⟩
theorem LSt.put (h : LSt w0 n a len cap f w p e k v D S T l L) (j : Nat) (x : Value) {k' v' : Int} {D' S' T' : ByteArray} {l' : Int} {L' : Value} (hx : (hdC k v D S T l 0 0 false L).setIfInBounds j x = hdC k' v' D' S' T' l' 0 0 false L')
    (ha : ∀ y, a = some y → y.block ≠ n + 2) : LSt w0 n a len cap f (w.setCell ⟨n + 2, j, none⟩ x) p e k' v' D' S' T' l' L' := by
  have st := rowSet_cell w (n + 2) j _ _ x h.hd
  rw [hx] at st
  exact ⟨h.rd.chg st.chg (by omega) ha, st.row, st.keep (by omega) h.rs, h.bl.trans (st.below n (by omega))⟩
theorem LSt.cells (h : LSt w0 n a len cap f w p e k v D S T l L) : w.cell? ⟨n + 2, 0, none⟩ = some (.int .i64 k) ∧ w.cell? ⟨n + 2, 1, none⟩ = some (.int .i64 v) ∧ w.cell? ⟨n + 2, 2, none⟩ = some (.string D) ∧ w.cell? ⟨n + 2, 3, none⟩ = some (.string S) ∧ w.cell? ⟨n + 2, 4, none⟩ = some (.string T) ∧ w.cell? ⟨n + 2, 5, none⟩ = some (.int .i64 l) ∧ w.cell? ⟨n + 2, 9, none⟩ = some L := by
  obtain ⟨c0, c1, c2, c3, c4, c5, _, _, _, c9⟩ := cells10 h.hd
  exact ⟨c0, c1, c2, c3, c4, c5, c9⟩
theorem LSt.free (h : LSt w0 n a len cap f w p e k v D S T l L) (j : Nat) : w.frozen? ⟨n + 2, j, none⟩ = false := frozen_of_row _ _ _ _ _ h.hd
end
set_option maxHeartbeats 16000000 in
theorem getLong_any (f : Nat → BitVec 8) (b off len cap : Nat) (w : World) (hl : 1 ≤ len) (hB : BytesIn w (some ⟨b, off, none⟩) len f) (hlc : len ≤ cap) (hcm : cap ≤ maxLen) :
    Calls Tryd.prog 69 #[.slice (some ⟨b, off, none⟩) len cap] w (GotPost (long f len) w) := by
  have zt : (Tryd.prog.info? 66).map (·.zero) = some (some (.agg (hdC 0 0 ⟨#[]⟩ ⟨#[]⟩ ⟨#[]⟩ 0 0 0 false (.slice none 0 0)))) := by kernel_rfl
  have HBI := Lib.hid hB
  obtain ⟨hbs, hc0⟩ : b < w.heap.size ∧ ∀ i, i < len → w.cell? ⟨b, off + i, none⟩ = some (.int .u8 (n8 (f i))) := by
    rcases hB.2 with h0 | ⟨k, o, e1, hk, hc⟩
    · omega
    · injection e1 with e1; injection e1 with e1 e2; subst e1; subst e2; exact ⟨hk, hc⟩
  have CELL : Hid (w.cell? ⟨b, off, none⟩ = some (.int .u8 (n8 (f 0)))) := Lib.hid (by have h := hc0 0 (by omega); simpa using h)
  clear hB hc0
  obtain ⟨g, hg⟩ : ∃ g, long f len = g := ⟨_, rfl⟩
  rw [hg]
  unfold long at hg
  generalize hV : numG (fun i => f (1 + i)) (tkN len 1 0 4) = V at hg
  generalize hp1 : 1 + tkN len 1 0 4 = p1 at hg
  generalize he1 : tkE len 1 0 4 = e1 at hg
  generalize hD : nmS len f p1 e1 = D at hg
  generalize hp2 : nmP len f p1 e1 = p2 at hg
  generalize he2 : nmE len f p1 e1 = e2 at hg
  generalize hS : nmS len f p2 e2 = S at hg
  generalize hp3 : nmP len f p2 e2 = p3 at hg
  generalize he3 : nmE len f p2 e2 = e3 at hg
  generalize hkd : f 0 >>> 4 &&& 3#8 = kd at hg
  have HG := Lib.hid hg
  have HD1 := Lib.hid (And.intro hV (And.intro hp1 he1))
  have HD2 := Lib.hid (And.intro hD (And.intro hp2 he2))
  have HD3 := Lib.hid (And.intro hS (And.intro hp3 he3))
  clear hg hV hp1 he1 hD hp2 he2 hS hp3 he3
  obtain ⟨m, hm⟩ : ∃ m : Nat, kd.toNat = m := ⟨_, rfl⟩
  have hw : wrap64 (n8 kd) = (m : Int) := by rw [n8_nat, ← hm]; have := kd.isLt; unfold wrap64; omega
  rw [hm] at HG
  have hm4 : m < 4 := by rw [← hm, ← hkd, BitVec.toNat_and]; exact Nat.lt_of_le_of_lt Nat.and_le_right (by decide)
  clear hm
  go_enter Tryd.func69, Tryd.ntmps69
  go_upto_region 3 with (first
    | (refine wpList_alloc_row (o := ⟨some 2, .alloc 66, _, _, _, _⟩) rfl 66 rfl _ zt ?_)
    | (refine wpList_alloc_row (o := ⟨some 7, .alloc 66, _, _, _, _⟩) rfl 66 rfl _ zt ?_)
    | fail)
  have r0 := rows_alloc w [.cells (hdC 0 0 ⟨#[]⟩ ⟨#[]⟩ ⟨#[]⟩ 0 0 0 false (.slice none 0 0)) 66, .cells #[.slice (some ⟨b, off, none⟩) len cap, .int .i64 1, .int .i64 0] 115, .cells (hdC 0 0 ⟨#[]⟩ ⟨#[]⟩ ⟨#[]⟩ 0 0 0 false (.slice none 0 0)) 66] 0
  have r1 := rows_alloc w [.cells (hdC 0 0 ⟨#[]⟩ ⟨#[]⟩ ⟨#[]⟩ 0 0 0 false (.slice none 0 0)) 66, .cells #[.slice (some ⟨b, off, none⟩) len cap, .int .i64 1, .int .i64 0] 115, .cells (hdC 0 0 ⟨#[]⟩ ⟨#[]⟩ ⟨#[]⟩ 0 0 0 false (.slice none 0 0)) 66] 1
  have r2 := rows_alloc w [.cells (hdC 0 0 ⟨#[]⟩ ⟨#[]⟩ ⟨#[]⟩ 0 0 0 false (.slice none 0 0)) 66, .cells #[.slice (some ⟨b, off, none⟩) len cap, .int .i64 1, .int .i64 0] 115, .cells (hdC 0 0 ⟨#[]⟩ ⟨#[]⟩ ⟨#[]⟩ 0 0 0 false (.slice none 0 0)) 66] 2
  have bel : Below w.heap.size w (((w.alloc (.cells (hdC 0 0 ⟨#[]⟩ ⟨#[]⟩ ⟨#[]⟩ 0 0 0 false (.slice none 0 0)) 66)).alloc (.cells #[.slice (some ⟨b, off, none⟩) len cap, .int .i64 1, .int .i64 0] 115)).alloc (.cells (hdC 0 0 ⟨#[]⟩ ⟨#[]⟩ ⟨#[]⟩ 0 0 0 false (.slice none 0 0)) 66)) := (((Below.refl w.heap.size w).alloc (Nat.le_refl _) _).alloc (by simp) _).alloc (by simp; omega) _
  have hs2 : ((w.alloc (.cells (hdC 0 0 ⟨#[]⟩ ⟨#[]⟩ ⟨#[]⟩ 0 0 0 false (.slice none 0 0)) 66)).alloc (.cells #[.slice (some ⟨b, off, none⟩) len cap, .int .i64 1, .int .i64 0] 115)).heap.size = w.heap.size + 2 := by simp
  simp only [List.foldl_cons, List.foldl_nil, Nat.add_zero] at r0 r1 r2
  simp only [hs2, Act.put, List.setIfInBounds_toArray, List.set_cons_succ, List.set_cons_zero]
  generalize World.alloc _ _ = w1 at *
  have ls : LSt w w.heap.size (some ⟨b, off, none⟩) len cap f w1 1 0 0 0 ⟨#[]⟩ ⟨#[]⟩ ⟨#[]⟩ 0 (.slice none 0 0) :=
    ⟨Rd.make 1 hl HBI.out hlc hcm bel (fun x hx => by injection hx with hx; subst hx; show b ≠ _; omega) r1, r2, r0, bel⟩
  have NB : Hid (∀ y, some (⟨b, off, none⟩ : Addr) = some y → y.block ≠ w.heap.size + 2) := Lib.hid (fun y hy => by injection hy with hy; subst hy; show b ≠ _; omega)
  have HBS := Lib.hid hbs
  clear r0 r1 r2 bel hs2 zt
  have N := Lib.hid (number_any ls.rd 4 (by omega))
  rw [show ((4 : Nat) : Int) = 4 from rfl] at N
  rw [HD1.out.1, HD1.out.2.1, HD1.out.2.2] at N
  have LS := Lib.hid ls
  clear ls
  generalize hn : w.heap.size = n at *
  have HNS := Lib.hid hn
  clear hn
  go_wp2_with fail
  with_reducible refine N.out.mono ?_
  rintro x w2 ⟨rfl, h2, g2⟩
  have ls := LS.out.step h2 g2
  have fr := ls.free 1
  obtain ⟨c0, c1, c2, c3, c4, c5, c9⟩ := ls.cells
  have ls2 := ls.put 1 (.int .i64 (V : Int)) rfl NB.out
  have N := Lib.hid (name_any ls2.rd)
  rw [HD2.out.1, HD2.out.2.1, HD2.out.2.2] at N
  have LS := Lib.hid ls2
  clear ls h2 g2 ls2
  go_upto_region 4 with (fail)
  clear fr c0 c1 c2 c3 c4 c5 c9
  generalize World.setCell _ _ _ = w3 at *
  go_wp2_with fail
  with_reducible refine N.out.mono ?_
  rintro x w2 ⟨rfl, h2, g2⟩
  have ls := LS.out.step h2 g2
  have fr := ls.free 2
  obtain ⟨c0, c1, c2, c3, c4, c5, c9⟩ := ls.cells
  have ls2 := ls.put 2 (.string D) rfl NB.out
  have N := Lib.hid (name_any ls2.rd)
  rw [HD3.out.1, HD3.out.2.1, HD3.out.2.2] at N
  have LS := Lib.hid ls2
  clear ls h2 g2 ls2
  go_upto_region 5 with (fail)
  clear fr c0 c1 c2 c3 c4 c5 c9
  generalize World.setCell _ _ _ = w4 at *
  go_wp2_with fail
  with_reducible refine N.out.mono ?_
  rintro x w2 ⟨rfl, h2, g2⟩
  have ls := LS.out.step h2 g2
  have fr := ls.free 3
  obtain ⟨c0, c1, c2, c3, c4, c5, c9⟩ := ls.cells
  have ls2 := ls.put 3 (.string S) rfl NB.out
  have LS := Lib.hid ls2
  have fr3 := ls2.free 0
  have cell := (ls2.bl.cell (p := ⟨b, off, none⟩) HBS.out).trans CELL.out
  obtain ⟨d0, d1, d2, d3, d4, d5, d9⟩ := ls2.cells
  have ls3 := ls2.put 0 (.int .i64 (m : Int)) rfl NB.out
  have LS3 := Lib.hid ls3
  clear ls h2 g2 ls2 ls3
  go_upto_region 6 with (fail)
  clear fr c0 c1 c2 c3 c4 c5 c9
  generalize World.setCell _ _ _ = w5 at *
  go_upto_region 7 with (fail)
  clear cell hw hkd fr3 d0 d1 d2 d3 d4 d5 d9 LS
  generalize World.setCell _ _ _ = w6 at *
  obtain ⟨c0, c1, c2, c3, c4, c5, c9⟩ := LS3.out.cells
  by_cases hV0 : V = 0
  · subst hV0
    have fr := LS3.out.free 0
    have ls4 := LS3.out.put 0 (.int .i64 5) rfl NB.out
    have VS := Lib.hid (versions_any ls4.rd)
    have LS4 := Lib.hid ls4
    clear ls4
    go_upto_region 9 with (fail)
    clear fr c0 c1 c2 c3 c4 c5 c9
    generalize World.setCell _ _ _ = w7 at *
    obtain ⟨c0, c1, c2, c3, c4, c5, c9⟩ := LS4.out.cells
    have hg := HG.out
    unfold longKind at hg
    rw [if_pos rfl] at hg
    generalize (if vsE len p3 e3 = 0 then vsG f p3 ((len - p3) / 4) else []) = G at VS hg
    generalize (if vsE len p3 e3 = 0 then len else p3) = p4 at VS hg
    generalize vsE len p3 e3 = e4 at VS hg
    have HG2 := Lib.hid hg
    clear hg HG
    go_wp2_with fail
    with_reducible refine VS.out.mono ?_
    rintro x wv ⟨aL, cL, rfl, hnew, hi, hr, hc⟩
    have ls5 := LS4.out.step hr hc
    have fr := ls5.free 9
    have ls6 := ls5.put 9 (.slice aL G.length cL) rfl NB.out
    have IN : Hid (∀ y, aL = some y → y.block ≠ n + 1) := Lib.hid (fun y hy => by have h1 := hnew y hy; have h2 := lt_row LS4.out.hd; omega)
    have INW : Hid (∀ y, aL = some y → n ≤ y.block) := Lib.hid (fun y hy => by have h1 := hnew y hy; have h2 := lt_row LS4.out.hd; omega)
    have IN0 : Hid (∀ y, aL = some y → y.block ≠ n) := Lib.hid (fun y hy => by have h1 := hnew y hy; have h2 := lt_row LS4.out.hd; omega)
    have IL := Lib.hid (hi.chg (rowSet_cell wv (n + 2) 9 _ _ (.slice aL G.length cL) ls5.hd).chg (fun y hy => by have h1 := hnew y hy; have h2 := lt_row LS4.out.hd; omega))
    have LS := Lib.hid ls6
    clear c0 c1 c2 c3 c4 c5 c9 hr hc VS
    obtain ⟨c0, c1, c2, c3, c4, c5, c9⟩ := ls5.cells
    clear ls5 ls6
    go_upto_region 18 with (fail)
    generalize World.setCell _ _ _ = w9 at *
    have T1 := Lib.hid (take_at LS.out.rd (0) 0 rfl)
    obtain ⟨r0, r1, r2⟩ := cells3 LS.out.rd.row
    obtain ⟨c0, c1, c2, c3, c4, c5, c9⟩ := LS.out.cells
    have hgd := HG2.out
    unfold longEnd at hgd
    generalize hE : tkE len p4 e4 (0) = E at T1 hgd
    generalize hN : p4 + tkN len p4 e4 (0) = PE at T1 hgd
    go_wp2_with fail
    with_reducible refine T1.out.mono ?_
    rintro x w8 ⟨a', c', rfl, _, _, _, h8, g8⟩
    have ls := LS.out.step h8 g8
    obtain ⟨r0, r1, r2⟩ := cells3 h8.row
    have RS := Lib.hid ls.rs
    have HD := Lib.hid ls.hd
    have BL := Lib.hid ls.bl
    have I8 := Lib.hid (IL.out.chg g8 IN.out)
    clear ls h8 g8 T1
    by_cases hE0 : E = 0
    · rw [if_pos hE0] at hgd
      subst hE0
      have GD := Lib.hid hgd
      clear hgd
      go_upto_region 22 with (fail)
      have LD := Lib.hid (load_hd HD.out)
      have HS : Hid (Kept n (PE) (hdC 5 0 D S ⟨#[]⟩ 0 0 0 false (.slice aL G.length cL)) w8.drew) := Lib.hid ⟨HD.out, r1⟩
      clear r0 r1 r2 c0 c1 c2 c3 c4 c5 c9
      refine wp_region_held_drew (S := Kept n (PE) (hdC 5 0 D S ⟨#[]⟩ 0 0 0 false (.slice aL G.length cL))) mixedOrders HS.out (fun hHeld => ?_)
      clear hHeld
      refine wpAnyH_take (i := 0) (oi := ⟨some 77, _, _, _, _, _⟩) (v := .agg (hdC 5 0 D S ⟨#[]⟩ 0 0 0 false (.slice aL G.length cL))) rfl (by kernel_rfl) (by kernel_rfl) (by kernel_rfl) (fun _ _ _ h => h) (Or.inl ⟨by rfl, fun w' hSw => ?_⟩) HS.out ?_
      · exact load_hd0 hSw.1
      simp only [Act.put, List.setIfInBounds_toArray, List.set_cons_succ, List.set_cons_zero]
      refine wpAnyH_take (i := 1) (oi := ⟨some 78, _, _, _, _, _⟩) (v := .int .i64 (p4 : Int)) rfl (by kernel_rfl) (by kernel_rfl) (by kernel_rfl) (fun _ _ _ h => h) (Or.inl ⟨by rfl, fun w' hSw => ?_⟩) HS.out ?_
      · go_simp
      simp only [Act.put, List.setIfInBounds_toArray, List.set_cons_succ, List.set_cons_zero]
      refine wpAnyH_take (i := 2) (oi := ⟨some 79, _, _, _, _, _⟩) (v := .pointer (some ⟨n + 1, 0, none⟩)) rfl (by kernel_rfl) (by kernel_rfl) (by kernel_rfl) (fun _ _ _ h => h) (Or.inl ⟨by rfl, fun w' hSw => ?_⟩) HS.out ?_
      · go_simp
      simp only [Act.put, List.setIfInBounds_toArray, List.set_cons_succ, List.set_cons_zero]
      refine wpAnyH_take (i := 3) (oi := ⟨some 80, _, _, _, _, _⟩) (v := .pointer (some ⟨n + 1, 0, none⟩)) rfl (by kernel_rfl) (by kernel_rfl) (by kernel_rfl) (fun _ _ _ h => h) (Or.inl ⟨by rfl, fun w' hSw => ?_⟩) HS.out ?_
      · go_simp
      simp only [Act.put, List.setIfInBounds_toArray, List.set_cons_succ, List.set_cons_zero]
      refine wpAnyH_take (i := 4) (oi := ⟨some 81, _, _, _, _, _⟩) (v := .pointer (some ⟨n + 1, 1, none⟩)) rfl (by kernel_rfl) (by kernel_rfl) (by kernel_rfl) (fun _ _ _ h => h) (Or.inl ⟨by rfl, fun w' hSw => ?_⟩) HS.out ?_
      · go_simp
      simp only [Act.put, List.setIfInBounds_toArray, List.set_cons_succ, List.set_cons_zero]
      refine wpAnyH_take (i := 5) (oi := ⟨some 82, _, _, _, _, _⟩) (v := .int .i64 (PE : Int)) rfl (by kernel_rfl) (by kernel_rfl) (by kernel_rfl) (fun _ _ _ h => h) (Or.inl ⟨by rfl, fun w' hSw => ?_⟩) HS.out ?_
      · have h := hSw.2
        go_simp
      simp only [Act.put, List.setIfInBounds_toArray, List.set_cons_succ, List.set_cons_zero]
      refine wpAnyH_ready (rs := [6]) (by kernel_rfl) (by simp) ?_
      refine AllReadyH.cons (i := 6) rfl (fun K hK => ?_) AllReadyH.nil
      rw [if_pos (by rfl)]
      refine step_store_row 66 _ _ rfl n 66 (hdC 0 0 ⟨#[]⟩ ⟨#[]⟩ ⟨#[]⟩ 0 0 0 false (.slice none 0 0)) (hdC 5 0 D S ⟨#[]⟩ 0 0 0 false (.slice aL G.length cL)) rfl rfl RS.out rfl (by kernel_rfl) (hdC_one _ _ _ _ _ _ _ _ _) ?_
      intro w9 rs
      have RS9 := Lib.hid rs
      have HS9 : Hid (Kept n (PE) (hdC 5 0 D S ⟨#[]⟩ 0 0 0 false (.slice aL G.length cL)) w9) := Lib.hid ⟨rs.keep (by omega) HS.out.1, by rw [rs.chg.cell (p := ⟨n + 1, 1, none⟩) (by have := lt_row HD.out; show n + 1 < w8.heap.size; omega) (by show n + 1 ≠ n; omega)]; exact HS.out.2⟩
      clear rs
      refine hK.out _ _ HS9.out (fun _ => ?_)
      clear hK K HS
      have HS := HS9
      clear HS9
      simp only [Act.put, List.setIfInBounds_toArray, List.set_cons_succ, List.set_cons_zero]
      refine wpAnyH_take (i := 7) (oi := ⟨some 3, _, _, _, _, _⟩) (v := .int .i64 (p4 : Int)) rfl (by kernel_rfl) (by kernel_rfl) (by kernel_rfl) (fun _ _ _ h => h) (Or.inl ⟨by rfl, fun w' hSw => ?_⟩) HS.out ?_
      · go_simp
      simp only [Act.put, List.setIfInBounds_toArray, List.set_cons_succ, List.set_cons_zero]
      refine wpAnyH_take (i := 8) (oi := ⟨some 4, _, _, _, _, _⟩) (v := .int .i64 (PE : Int)) rfl (by kernel_rfl) (by kernel_rfl) (by kernel_rfl) (fun _ _ _ h => h) (Or.inl ⟨by rfl, fun w' hSw => ?_⟩) HS.out ?_
      · go_simp
      simp only [Act.put, List.setIfInBounds_toArray, List.set_cons_succ, List.set_cons_zero]
      refine wpAnyH_take (i := 9) (oi := ⟨some 5, _, _, _, _, _⟩) (v := .int .i64 0) rfl (by kernel_rfl) (by kernel_rfl) (by kernel_rfl) (fun _ _ _ h => h) (Or.inl ⟨by rfl, fun w' hSw => ?_⟩) HS.out ?_
      · go_simp
      simp only [Act.put, List.setIfInBounds_toArray, List.set_cons_succ, List.set_cons_zero]
      refine wpAnyH_done (by kernel_rfl) ?_ _
      go_wp2_with fail
      refine bodyPost_ret (results_hd rfl _ _ n 66 (hdC 5 0 D S ⟨#[]⟩ 0 0 0 false (.slice aL G.length cL)) (0, 0) _ rfl RS9.out.row Tryd.underlying66 ⟨_, rfl⟩ (by kernel_rfl)) rfl ?_
      rw [← GD.out]
      exact ⟨aL, cL, rfl, by rw [HNS.out]; exact INW.out, (I8.out.chg ((Chg.refl n w8).drew.trans RS9.out.chg) IN0.out), by rw [HNS.out]; exact BL.out.drew.trans (RS9.out.below n (by omega))⟩
    · rw [if_neg hE0] at hgd
      have GD := Lib.hid hgd
      clear hgd
      have HE0 := Lib.hid hE0
      go_upto_region 21 with (fail)
      have HS : Hid (w8.drew.cell? ⟨n + 1, 2, none⟩ = some (.int .i64 E)) := Lib.hid r2
      clear r0 r1 r2 c0 c1 c2 c3 c4 c5 c9
      refine wp_region_held_drew (S := fun w' => w'.cell? ⟨n + 1, 2, none⟩ = some (.int .i64 E)) mixedOrders HS.out (fun hHeld => ?_)
      clear hHeld
      refine wpAnyH_take (i := 0) (oi := ⟨some 72, _, _, _, _, _⟩) (v := .agg (hdC 0 0 ⟨#[]⟩ ⟨#[]⟩ ⟨#[]⟩ 0 0 0 false (.slice none 0 0))) rfl (by kernel_rfl) (by kernel_rfl) (by kernel_rfl) (fun _ _ _ h => h) (Or.inl ⟨by rfl, fun w' hSw => ?_⟩) HS.out ?_
      · have h := build_hd0 w'
        go_simp
        rfl
      simp only [Act.put, List.setIfInBounds_toArray, List.set_cons_succ, List.set_cons_zero]
      refine wpAnyH_take (i := 1) (oi := ⟨some 73, _, _, _, _, _⟩) (v := .pointer (some ⟨n + 1, 0, none⟩)) rfl (by kernel_rfl) (by kernel_rfl) (by kernel_rfl) (fun _ _ _ h => h) (Or.inl ⟨by rfl, fun w' hSw => ?_⟩) HS.out ?_
      · go_simp
      simp only [Act.put, List.setIfInBounds_toArray, List.set_cons_succ, List.set_cons_zero]
      refine wpAnyH_take (i := 2) (oi := ⟨some 74, _, _, _, _, _⟩) (v := .pointer (some ⟨n + 1, 0, none⟩)) rfl (by kernel_rfl) (by kernel_rfl) (by kernel_rfl) (fun _ _ _ h => h) (Or.inl ⟨by rfl, fun w' hSw => ?_⟩) HS.out ?_
      · go_simp
      simp only [Act.put, List.setIfInBounds_toArray, List.set_cons_succ, List.set_cons_zero]
      refine wpAnyH_take (i := 3) (oi := ⟨some 75, _, _, _, _, _⟩) (v := .pointer (some ⟨n + 1, 2, none⟩)) rfl (by kernel_rfl) (by kernel_rfl) (by kernel_rfl) (fun _ _ _ h => h) (Or.inl ⟨by rfl, fun w' hSw => ?_⟩) HS.out ?_
      · go_simp
      simp only [Act.put, List.setIfInBounds_toArray, List.set_cons_succ, List.set_cons_zero]
      refine wpAnyH_take (i := 4) (oi := ⟨some 76, _, _, _, _, _⟩) (v := .int .i64 E) rfl (by kernel_rfl) (by kernel_rfl) (by kernel_rfl) (fun _ _ _ h => h) (Or.inl ⟨by rfl, fun w' hSw => ?_⟩) HS.out ?_
      · go_simp
      simp only [Act.put, List.setIfInBounds_toArray, List.set_cons_succ, List.set_cons_zero]
      refine wpAnyH_ready (rs := [5]) (by kernel_rfl) (by simp) ?_
      refine AllReadyH.cons (i := 5) rfl (fun K hK => ?_) AllReadyH.nil
      rw [if_pos (by rfl)]
      refine step_store_row 66 _ _ rfl n 66 (hdC 0 0 ⟨#[]⟩ ⟨#[]⟩ ⟨#[]⟩ 0 0 0 false (.slice none 0 0)) (hdC 0 0 ⟨#[]⟩ ⟨#[]⟩ ⟨#[]⟩ 0 0 0 false (.slice none 0 0)) rfl rfl RS.out rfl (by kernel_rfl) (hdC_one _ _ _ _ _ _ _ _ _) ?_
      intro w9 rs
      have RS9 := Lib.hid rs
      have HS9 : Hid (w9.cell? ⟨n + 1, 2, none⟩ = some (.int .i64 E)) := Lib.hid (by rw [rs.chg.cell (p := ⟨n + 1, 2, none⟩) (by have := lt_row HD.out; show n + 1 < w8.heap.size; omega) (by show n + 1 ≠ n; omega)]; exact HS.out)
      clear rs
      refine hK.out _ _ HS9.out (fun _ => ?_)
      clear hK K HS
      have HS := HS9
      clear HS9
      simp only [Act.put, List.setIfInBounds_toArray, List.set_cons_succ, List.set_cons_zero]
      refine wpAnyH_take (i := 6) (oi := ⟨some 3, _, _, _, _, _⟩) (v := .int .i64 0) rfl (by kernel_rfl) (by kernel_rfl) (by kernel_rfl) (fun _ _ _ h => h) (Or.inl ⟨by rfl, fun w' hSw => ?_⟩) HS.out ?_
      · go_simp
      simp only [Act.put, List.setIfInBounds_toArray, List.set_cons_succ, List.set_cons_zero]
      refine wpAnyH_take (i := 7) (oi := ⟨some 4, _, _, _, _, _⟩) (v := .int .i64 0) rfl (by kernel_rfl) (by kernel_rfl) (by kernel_rfl) (fun _ _ _ h => h) (Or.inl ⟨by rfl, fun w' hSw => ?_⟩) HS.out ?_
      · go_simp
      simp only [Act.put, List.setIfInBounds_toArray, List.set_cons_succ, List.set_cons_zero]
      refine wpAnyH_take (i := 8) (oi := ⟨some 5, _, _, _, _, _⟩) (v := .int .i64 E) rfl (by kernel_rfl) (by kernel_rfl) (by kernel_rfl) (fun _ _ _ h => h) (Or.inl ⟨by rfl, fun w' hSw => ?_⟩) HS.out ?_
      · go_simp
      simp only [Act.put, List.setIfInBounds_toArray, List.set_cons_succ, List.set_cons_zero]
      refine wpAnyH_done (by kernel_rfl) ?_ _
      go_wp2_with fail
      refine bodyPost_ret (results_hd rfl _ _ n 66 (hdC 0 0 ⟨#[]⟩ ⟨#[]⟩ ⟨#[]⟩ 0 0 0 false (.slice none 0 0)) (0, 0) _ rfl RS9.out.row Tryd.underlying66 ⟨_, rfl⟩ (by kernel_rfl)) rfl ?_
      rw [← GD.out]
      exact ⟨none, 0, rfl, (fun y hy => by cases hy), ints_none _, by rw [HNS.out]; exact BL.out.drew.trans (RS9.out.below n (by omega))⟩
  have hVb : ((V : Int) == 0) = false := beq_eq_false_iff_ne.2 (by omega)
  have hVi : ¬ (V : Int) = 0 := by omega
  have ILN : ∀ w' : World, IntsIn w' (.slice none ([] : List Int).length 0) [] := ints_none
  have hg := HG.out
  unfold longKind at hg
  rw [if_neg hV0] at hg
  clear HG
  by_cases h3 : m = 3
  · subst h3
    rw [if_pos rfl] at hg
    generalize hT : strOf (fun i => f (p3 + i)) (txN len p3 (len - p3) 512 e3) = T at hg
    generalize hp4 : p3 + txN len p3 (len - p3) 512 e3 = p4 at hg
    generalize he4 : txE len p3 (len - p3) 512 e3 = e4 at hg
    have LF := Lib.hid (left_any LS3.out.rd)
    have TK := Lib.hid (fun (w' : World) (h' : Rd w' (n + 1) (some ⟨b, off, none⟩) len cap f p3 e3) => token_any h' (len - p3))
    rw [hT, hp4, he4] at TK
    have HG2 := Lib.hid hg
    clear hg hT hp4 he4
    go_upto_region 14 with (fail)
    clear c0 c1 c2 c3 c4 c5 c9
    go_wp2_with fail
    with_reducible refine LF.out.mono ?_
    rintro x wa ⟨rfl, ha, ga⟩
    have LSa := Lib.hid (LS3.out.step ha ga)
    have TKa := Lib.hid (TK.out wa ha)
    clear ha ga LF TK
    go_wp2_with fail
    with_reducible refine TKa.out.mono ?_
    rintro x wb ⟨rfl, hb, gb⟩
    have ls5 := LSa.out.step hb gb
    have fr := ls5.free 4
    have LS := Lib.hid (ls5.put 4 (.string T) rfl NB.out)
    obtain ⟨c0, c1, c2, c3, c4, c5, c9⟩ := ls5.cells
    have IN : Hid (∀ y, (none : Option Addr) = some y → y.block ≠ n + 1) := Lib.hid (fun y hy => by cases hy)
    have INW : Hid (∀ y, (none : Option Addr) = some y → n ≤ y.block) := Lib.hid (fun y hy => by cases hy)
    have IN0 : Hid (∀ y, (none : Option Addr) = some y → y.block ≠ n) := Lib.hid (fun y hy => by cases hy)
    clear hb gb ls5
    go_upto_region 18 with (fail)
    have IL : Hid (IntsIn (World.setCell wb ⟨n + 2, 4, none⟩ (.string T)) (.slice none ([] : List Int).length 0) []) := Lib.hid (ILN _)
    generalize World.setCell _ _ _ = w9 at *
    have T1 := Lib.hid (take_at LS.out.rd (0) 0 rfl)
    obtain ⟨r0, r1, r2⟩ := cells3 LS.out.rd.row
    obtain ⟨c0, c1, c2, c3, c4, c5, c9⟩ := LS.out.cells
    have hgd := HG2.out
    unfold longEnd at hgd
    generalize hE : tkE len p4 e4 (0) = E at T1 hgd
    generalize hN : p4 + tkN len p4 e4 (0) = PE at T1 hgd
    go_wp2_with fail
    with_reducible refine T1.out.mono ?_
    rintro x w8 ⟨a', c', rfl, _, _, _, h8, g8⟩
    have ls := LS.out.step h8 g8
    obtain ⟨r0, r1, r2⟩ := cells3 h8.row
    have RS := Lib.hid ls.rs
    have HD := Lib.hid ls.hd
    have BL := Lib.hid ls.bl
    have I8 := Lib.hid (IL.out.chg g8 IN.out)
    clear ls h8 g8 T1
    by_cases hE0 : E = 0
    · rw [if_pos hE0] at hgd
      subst hE0
      have GD := Lib.hid hgd
      clear hgd
      go_upto_region 22 with (fail)
      have LD := Lib.hid (load_hd HD.out)
      have HS : Hid (Kept n (PE) (hdC 3 (V : Int) D S T 0 0 0 false (.slice none 0 0)) w8.drew) := Lib.hid ⟨HD.out, r1⟩
      clear r0 r1 r2 c0 c1 c2 c3 c4 c5 c9
      refine wp_region_held_drew (S := Kept n (PE) (hdC 3 (V : Int) D S T 0 0 0 false (.slice none 0 0))) mixedOrders HS.out (fun hHeld => ?_)
      clear hHeld
      refine wpAnyH_take (i := 0) (oi := ⟨some 77, _, _, _, _, _⟩) (v := .agg (hdC 3 (V : Int) D S T 0 0 0 false (.slice none 0 0))) rfl (by kernel_rfl) (by kernel_rfl) (by kernel_rfl) (fun _ _ _ h => h) (Or.inl ⟨by rfl, fun w' hSw => ?_⟩) HS.out ?_
      · exact load_hd0 hSw.1
      simp only [Act.put, List.setIfInBounds_toArray, List.set_cons_succ, List.set_cons_zero]
      refine wpAnyH_take (i := 1) (oi := ⟨some 78, _, _, _, _, _⟩) (v := .int .i64 (p4 : Int)) rfl (by kernel_rfl) (by kernel_rfl) (by kernel_rfl) (fun _ _ _ h => h) (Or.inl ⟨by rfl, fun w' hSw => ?_⟩) HS.out ?_
      · go_simp
      simp only [Act.put, List.setIfInBounds_toArray, List.set_cons_succ, List.set_cons_zero]
      refine wpAnyH_take (i := 2) (oi := ⟨some 79, _, _, _, _, _⟩) (v := .pointer (some ⟨n + 1, 0, none⟩)) rfl (by kernel_rfl) (by kernel_rfl) (by kernel_rfl) (fun _ _ _ h => h) (Or.inl ⟨by rfl, fun w' hSw => ?_⟩) HS.out ?_
      · go_simp
      simp only [Act.put, List.setIfInBounds_toArray, List.set_cons_succ, List.set_cons_zero]
      refine wpAnyH_take (i := 3) (oi := ⟨some 80, _, _, _, _, _⟩) (v := .pointer (some ⟨n + 1, 0, none⟩)) rfl (by kernel_rfl) (by kernel_rfl) (by kernel_rfl) (fun _ _ _ h => h) (Or.inl ⟨by rfl, fun w' hSw => ?_⟩) HS.out ?_
      · go_simp
      simp only [Act.put, List.setIfInBounds_toArray, List.set_cons_succ, List.set_cons_zero]
      refine wpAnyH_take (i := 4) (oi := ⟨some 81, _, _, _, _, _⟩) (v := .pointer (some ⟨n + 1, 1, none⟩)) rfl (by kernel_rfl) (by kernel_rfl) (by kernel_rfl) (fun _ _ _ h => h) (Or.inl ⟨by rfl, fun w' hSw => ?_⟩) HS.out ?_
      · go_simp
      simp only [Act.put, List.setIfInBounds_toArray, List.set_cons_succ, List.set_cons_zero]
      refine wpAnyH_take (i := 5) (oi := ⟨some 82, _, _, _, _, _⟩) (v := .int .i64 (PE : Int)) rfl (by kernel_rfl) (by kernel_rfl) (by kernel_rfl) (fun _ _ _ h => h) (Or.inl ⟨by rfl, fun w' hSw => ?_⟩) HS.out ?_
      · have h := hSw.2
        go_simp
      simp only [Act.put, List.setIfInBounds_toArray, List.set_cons_succ, List.set_cons_zero]
      refine wpAnyH_ready (rs := [6]) (by kernel_rfl) (by simp) ?_
      refine AllReadyH.cons (i := 6) rfl (fun K hK => ?_) AllReadyH.nil
      rw [if_pos (by rfl)]
      refine step_store_row 66 _ _ rfl n 66 (hdC 0 0 ⟨#[]⟩ ⟨#[]⟩ ⟨#[]⟩ 0 0 0 false (.slice none 0 0)) (hdC 3 (V : Int) D S T 0 0 0 false (.slice none 0 0)) rfl rfl RS.out rfl (by kernel_rfl) (hdC_one _ _ _ _ _ _ _ _ _) ?_
      intro w9 rs
      have RS9 := Lib.hid rs
      have HS9 : Hid (Kept n (PE) (hdC 3 (V : Int) D S T 0 0 0 false (.slice none 0 0)) w9) := Lib.hid ⟨rs.keep (by omega) HS.out.1, by rw [rs.chg.cell (p := ⟨n + 1, 1, none⟩) (by have := lt_row HD.out; show n + 1 < w8.heap.size; omega) (by show n + 1 ≠ n; omega)]; exact HS.out.2⟩
      clear rs
      refine hK.out _ _ HS9.out (fun _ => ?_)
      clear hK K HS
      have HS := HS9
      clear HS9
      simp only [Act.put, List.setIfInBounds_toArray, List.set_cons_succ, List.set_cons_zero]
      refine wpAnyH_take (i := 7) (oi := ⟨some 3, _, _, _, _, _⟩) (v := .int .i64 (p4 : Int)) rfl (by kernel_rfl) (by kernel_rfl) (by kernel_rfl) (fun _ _ _ h => h) (Or.inl ⟨by rfl, fun w' hSw => ?_⟩) HS.out ?_
      · go_simp
      simp only [Act.put, List.setIfInBounds_toArray, List.set_cons_succ, List.set_cons_zero]
      refine wpAnyH_take (i := 8) (oi := ⟨some 4, _, _, _, _, _⟩) (v := .int .i64 (PE : Int)) rfl (by kernel_rfl) (by kernel_rfl) (by kernel_rfl) (fun _ _ _ h => h) (Or.inl ⟨by rfl, fun w' hSw => ?_⟩) HS.out ?_
      · go_simp
      simp only [Act.put, List.setIfInBounds_toArray, List.set_cons_succ, List.set_cons_zero]
      refine wpAnyH_take (i := 9) (oi := ⟨some 5, _, _, _, _, _⟩) (v := .int .i64 0) rfl (by kernel_rfl) (by kernel_rfl) (by kernel_rfl) (fun _ _ _ h => h) (Or.inl ⟨by rfl, fun w' hSw => ?_⟩) HS.out ?_
      · go_simp
      simp only [Act.put, List.setIfInBounds_toArray, List.set_cons_succ, List.set_cons_zero]
      refine wpAnyH_done (by kernel_rfl) ?_ _
      go_wp2_with fail
      refine bodyPost_ret (results_hd rfl _ _ n 66 (hdC 3 (V : Int) D S T 0 0 0 false (.slice none 0 0)) (0, 0) _ rfl RS9.out.row Tryd.underlying66 ⟨_, rfl⟩ (by kernel_rfl)) rfl ?_
      rw [← GD.out]
      exact ⟨none, 0, rfl, by rw [HNS.out]; exact INW.out, (I8.out.chg ((Chg.refl n w8).drew.trans RS9.out.chg) IN0.out), by rw [HNS.out]; exact BL.out.drew.trans (RS9.out.below n (by omega))⟩
    · rw [if_neg hE0] at hgd
      have GD := Lib.hid hgd
      clear hgd
      have HE0 := Lib.hid hE0
      go_upto_region 21 with (fail)
      have HS : Hid (w8.drew.cell? ⟨n + 1, 2, none⟩ = some (.int .i64 E)) := Lib.hid r2
      clear r0 r1 r2 c0 c1 c2 c3 c4 c5 c9
      refine wp_region_held_drew (S := fun w' => w'.cell? ⟨n + 1, 2, none⟩ = some (.int .i64 E)) mixedOrders HS.out (fun hHeld => ?_)
      clear hHeld
      refine wpAnyH_take (i := 0) (oi := ⟨some 72, _, _, _, _, _⟩) (v := .agg (hdC 0 0 ⟨#[]⟩ ⟨#[]⟩ ⟨#[]⟩ 0 0 0 false (.slice none 0 0))) rfl (by kernel_rfl) (by kernel_rfl) (by kernel_rfl) (fun _ _ _ h => h) (Or.inl ⟨by rfl, fun w' hSw => ?_⟩) HS.out ?_
      · have h := build_hd0 w'
        go_simp
        rfl
      simp only [Act.put, List.setIfInBounds_toArray, List.set_cons_succ, List.set_cons_zero]
      refine wpAnyH_take (i := 1) (oi := ⟨some 73, _, _, _, _, _⟩) (v := .pointer (some ⟨n + 1, 0, none⟩)) rfl (by kernel_rfl) (by kernel_rfl) (by kernel_rfl) (fun _ _ _ h => h) (Or.inl ⟨by rfl, fun w' hSw => ?_⟩) HS.out ?_
      · go_simp
      simp only [Act.put, List.setIfInBounds_toArray, List.set_cons_succ, List.set_cons_zero]
      refine wpAnyH_take (i := 2) (oi := ⟨some 74, _, _, _, _, _⟩) (v := .pointer (some ⟨n + 1, 0, none⟩)) rfl (by kernel_rfl) (by kernel_rfl) (by kernel_rfl) (fun _ _ _ h => h) (Or.inl ⟨by rfl, fun w' hSw => ?_⟩) HS.out ?_
      · go_simp
      simp only [Act.put, List.setIfInBounds_toArray, List.set_cons_succ, List.set_cons_zero]
      refine wpAnyH_take (i := 3) (oi := ⟨some 75, _, _, _, _, _⟩) (v := .pointer (some ⟨n + 1, 2, none⟩)) rfl (by kernel_rfl) (by kernel_rfl) (by kernel_rfl) (fun _ _ _ h => h) (Or.inl ⟨by rfl, fun w' hSw => ?_⟩) HS.out ?_
      · go_simp
      simp only [Act.put, List.setIfInBounds_toArray, List.set_cons_succ, List.set_cons_zero]
      refine wpAnyH_take (i := 4) (oi := ⟨some 76, _, _, _, _, _⟩) (v := .int .i64 E) rfl (by kernel_rfl) (by kernel_rfl) (by kernel_rfl) (fun _ _ _ h => h) (Or.inl ⟨by rfl, fun w' hSw => ?_⟩) HS.out ?_
      · go_simp
      simp only [Act.put, List.setIfInBounds_toArray, List.set_cons_succ, List.set_cons_zero]
      refine wpAnyH_ready (rs := [5]) (by kernel_rfl) (by simp) ?_
      refine AllReadyH.cons (i := 5) rfl (fun K hK => ?_) AllReadyH.nil
      rw [if_pos (by rfl)]
      refine step_store_row 66 _ _ rfl n 66 (hdC 0 0 ⟨#[]⟩ ⟨#[]⟩ ⟨#[]⟩ 0 0 0 false (.slice none 0 0)) (hdC 0 0 ⟨#[]⟩ ⟨#[]⟩ ⟨#[]⟩ 0 0 0 false (.slice none 0 0)) rfl rfl RS.out rfl (by kernel_rfl) (hdC_one _ _ _ _ _ _ _ _ _) ?_
      intro w9 rs
      have RS9 := Lib.hid rs
      have HS9 : Hid (w9.cell? ⟨n + 1, 2, none⟩ = some (.int .i64 E)) := Lib.hid (by rw [rs.chg.cell (p := ⟨n + 1, 2, none⟩) (by have := lt_row HD.out; show n + 1 < w8.heap.size; omega) (by show n + 1 ≠ n; omega)]; exact HS.out)
      clear rs
      refine hK.out _ _ HS9.out (fun _ => ?_)
      clear hK K HS
      have HS := HS9
      clear HS9
      simp only [Act.put, List.setIfInBounds_toArray, List.set_cons_succ, List.set_cons_zero]
      refine wpAnyH_take (i := 6) (oi := ⟨some 3, _, _, _, _, _⟩) (v := .int .i64 0) rfl (by kernel_rfl) (by kernel_rfl) (by kernel_rfl) (fun _ _ _ h => h) (Or.inl ⟨by rfl, fun w' hSw => ?_⟩) HS.out ?_
      · go_simp
      simp only [Act.put, List.setIfInBounds_toArray, List.set_cons_succ, List.set_cons_zero]
      refine wpAnyH_take (i := 7) (oi := ⟨some 4, _, _, _, _, _⟩) (v := .int .i64 0) rfl (by kernel_rfl) (by kernel_rfl) (by kernel_rfl) (fun _ _ _ h => h) (Or.inl ⟨by rfl, fun w' hSw => ?_⟩) HS.out ?_
      · go_simp
      simp only [Act.put, List.setIfInBounds_toArray, List.set_cons_succ, List.set_cons_zero]
      refine wpAnyH_take (i := 8) (oi := ⟨some 5, _, _, _, _, _⟩) (v := .int .i64 E) rfl (by kernel_rfl) (by kernel_rfl) (by kernel_rfl) (fun _ _ _ h => h) (Or.inl ⟨by rfl, fun w' hSw => ?_⟩) HS.out ?_
      · go_simp
      simp only [Act.put, List.setIfInBounds_toArray, List.set_cons_succ, List.set_cons_zero]
      refine wpAnyH_done (by kernel_rfl) ?_ _
      go_wp2_with fail
      refine bodyPost_ret (results_hd rfl _ _ n 66 (hdC 0 0 ⟨#[]⟩ ⟨#[]⟩ ⟨#[]⟩ 0 0 0 false (.slice none 0 0)) (0, 0) _ rfl RS9.out.row Tryd.underlying66 ⟨_, rfl⟩ (by kernel_rfl)) rfl ?_
      rw [← GD.out]
      exact ⟨none, 0, rfl, (fun y hy => by cases hy), ints_none _, by rw [HNS.out]; exact BL.out.drew.trans (RS9.out.below n (by omega))⟩
  rw [if_neg h3] at hg
  have hm3 : ((m : Int) == 3) = false := beq_eq_false_iff_ne.2 (by omega)
  have hm3i : ¬ (m : Int) = 3 := by omega
  by_cases h0 : m = 0
  · subst h0
    rw [if_pos rfl] at hg
    generalize hc1 : ctV len f p3 512 e3 = nT at hg
    generalize hc2 : ctP len f p3 e3 = p4 at hg
    generalize hc3 : ctE len f p3 512 e3 = e4 at hg
    generalize hT : strOf (fun i => f (p4 + i)) (txN len p4 nT 512 e4) = T at hg
    generalize hp5 : p4 + txN len p4 nT 512 e4 = p5 at hg
    generalize he5 : txE len p4 nT 512 e4 = e5 at hg
    generalize hl6 : ctV len f p5 16383 e5 = l6 at hg
    generalize hp6 : ctP len f p5 e5 = p6 at hg
    generalize he6 : ctE len f p5 16383 e5 = e6 at hg
    have CT := Lib.hid (show Calls Tryd.prog 81 #[.pointer (some ⟨n + 1, 0, none⟩), .int .i64 512] w6 (RdPost (n + 1) (some ⟨b, off, none⟩) len cap f w6 (.int .i64 (nT : Int)) p4 e4) from by
      rw [← hc1, ← hc2, ← hc3]; exact counted_any LS3.out.rd 512)
    have TK := Lib.hid (fun (w' : World) (h' : Rd w' (n + 1) (some ⟨b, off, none⟩) len cap f p4 e4) => token_any h' nT)
    rw [hT, hp5, he5] at TK
    have CU := Lib.hid (fun (w' : World) (h' : Rd w' (n + 1) (some ⟨b, off, none⟩) len cap f p5 e5) => (show Calls Tryd.prog 81 #[.pointer (some ⟨n + 1, 0, none⟩), .int .i64 16383] w' (RdPost (n + 1) (some ⟨b, off, none⟩) len cap f w' (.int .i64 (l6 : Int)) p6 e6) from by
      rw [← hl6, ← hp6, ← he6]; exact counted_any h' 16383))
    have HG2 := Lib.hid hg
    clear hg hT hc1 hc2 hc3 hp5 he5 hl6 hp6 he6 hm3 hm3i h3
    go_upto_region 16 with (fail)
    clear c0 c1 c2 c3 c4 c5 c9
    go_wp2_with fail
    with_reducible refine CT.out.mono ?_
    rintro x wa ⟨rfl, ha, ga⟩
    have LSa := Lib.hid (LS3.out.step ha ga)
    have TKa := Lib.hid (TK.out wa ha)
    clear ha ga CT TK
    go_wp2_with fail
    with_reducible refine TKa.out.mono ?_
    rintro x wb ⟨rfl, hb, gb⟩
    have ls5 := LSa.out.step hb gb
    have fr := ls5.free 4
    have lsc := ls5.put 4 (.string T) rfl NB.out
    have LSc := Lib.hid lsc
    have CUc := Lib.hid (CU.out _ lsc.rd)
    obtain ⟨c0, c1, c2, c3, c4, c5, c9⟩ := ls5.cells
    clear hb gb ls5 lsc CU
    go_upto_region 17 with (fail)
    clear fr c0 c1 c2 c3 c4 c5 c9
    generalize World.setCell _ _ _ = wc at *
    go_wp2_with fail
    with_reducible refine CUc.out.mono ?_
    rintro x wd ⟨rfl, hd, gd⟩
    have ls5 := LSc.out.step hd gd
    have fr := ls5.free 5
    have LS := Lib.hid (ls5.put 5 (.int .i64 (l6 : Int)) rfl NB.out)
    obtain ⟨c0, c1, c2, c3, c4, c5, c9⟩ := ls5.cells
    have IN : Hid (∀ y, (none : Option Addr) = some y → y.block ≠ n + 1) := Lib.hid (fun y hy => by cases hy)
    have INW : Hid (∀ y, (none : Option Addr) = some y → n ≤ y.block) := Lib.hid (fun y hy => by cases hy)
    have IN0 : Hid (∀ y, (none : Option Addr) = some y → y.block ≠ n) := Lib.hid (fun y hy => by cases hy)
    clear hd gd ls5 CUc
    go_upto_region 18 with (fail)
    have IL : Hid (IntsIn (World.setCell wd ⟨n + 2, 5, none⟩ (.int .i64 (l6 : Int))) (.slice none ([] : List Int).length 0) []) := Lib.hid (ILN _)
    generalize World.setCell _ _ _ = w9 at *
    have T1 := Lib.hid (take_at LS.out.rd (l6) (l6 : Int) rfl)
    obtain ⟨r0, r1, r2⟩ := cells3 LS.out.rd.row
    obtain ⟨c0, c1, c2, c3, c4, c5, c9⟩ := LS.out.cells
    have hgd := HG2.out
    unfold longEnd at hgd
    generalize hE : tkE len p6 e6 (l6) = E at T1 hgd
    generalize hN : p6 + tkN len p6 e6 (l6) = PE at T1 hgd
    go_wp2_with fail
    with_reducible refine T1.out.mono ?_
    rintro x w8 ⟨a', c', rfl, _, _, _, h8, g8⟩
    have ls := LS.out.step h8 g8
    obtain ⟨r0, r1, r2⟩ := cells3 h8.row
    have RS := Lib.hid ls.rs
    have HD := Lib.hid ls.hd
    have BL := Lib.hid ls.bl
    have I8 := Lib.hid (IL.out.chg g8 IN.out)
    clear ls h8 g8 T1
    by_cases hE0 : E = 0
    · rw [if_pos hE0] at hgd
      subst hE0
      have GD := Lib.hid hgd
      clear hgd
      go_upto_region 22 with (fail)
      have LD := Lib.hid (load_hd HD.out)
      have HS : Hid (Kept n (PE) (hdC 0 (V : Int) D S T (l6 : Int) 0 0 false (.slice none 0 0)) w8.drew) := Lib.hid ⟨HD.out, r1⟩
      clear r0 r1 r2 c0 c1 c2 c3 c4 c5 c9
      refine wp_region_held_drew (S := Kept n (PE) (hdC 0 (V : Int) D S T (l6 : Int) 0 0 false (.slice none 0 0))) mixedOrders HS.out (fun hHeld => ?_)
      clear hHeld
      refine wpAnyH_take (i := 0) (oi := ⟨some 77, _, _, _, _, _⟩) (v := .agg (hdC 0 (V : Int) D S T (l6 : Int) 0 0 false (.slice none 0 0))) rfl (by kernel_rfl) (by kernel_rfl) (by kernel_rfl) (fun _ _ _ h => h) (Or.inl ⟨by rfl, fun w' hSw => ?_⟩) HS.out ?_
      · exact load_hd0 hSw.1
      simp only [Act.put, List.setIfInBounds_toArray, List.set_cons_succ, List.set_cons_zero]
      refine wpAnyH_take (i := 1) (oi := ⟨some 78, _, _, _, _, _⟩) (v := .int .i64 (p6 : Int)) rfl (by kernel_rfl) (by kernel_rfl) (by kernel_rfl) (fun _ _ _ h => h) (Or.inl ⟨by rfl, fun w' hSw => ?_⟩) HS.out ?_
      · go_simp
      simp only [Act.put, List.setIfInBounds_toArray, List.set_cons_succ, List.set_cons_zero]
      refine wpAnyH_take (i := 2) (oi := ⟨some 79, _, _, _, _, _⟩) (v := .pointer (some ⟨n + 1, 0, none⟩)) rfl (by kernel_rfl) (by kernel_rfl) (by kernel_rfl) (fun _ _ _ h => h) (Or.inl ⟨by rfl, fun w' hSw => ?_⟩) HS.out ?_
      · go_simp
      simp only [Act.put, List.setIfInBounds_toArray, List.set_cons_succ, List.set_cons_zero]
      refine wpAnyH_take (i := 3) (oi := ⟨some 80, _, _, _, _, _⟩) (v := .pointer (some ⟨n + 1, 0, none⟩)) rfl (by kernel_rfl) (by kernel_rfl) (by kernel_rfl) (fun _ _ _ h => h) (Or.inl ⟨by rfl, fun w' hSw => ?_⟩) HS.out ?_
      · go_simp
      simp only [Act.put, List.setIfInBounds_toArray, List.set_cons_succ, List.set_cons_zero]
      refine wpAnyH_take (i := 4) (oi := ⟨some 81, _, _, _, _, _⟩) (v := .pointer (some ⟨n + 1, 1, none⟩)) rfl (by kernel_rfl) (by kernel_rfl) (by kernel_rfl) (fun _ _ _ h => h) (Or.inl ⟨by rfl, fun w' hSw => ?_⟩) HS.out ?_
      · go_simp
      simp only [Act.put, List.setIfInBounds_toArray, List.set_cons_succ, List.set_cons_zero]
      refine wpAnyH_take (i := 5) (oi := ⟨some 82, _, _, _, _, _⟩) (v := .int .i64 (PE : Int)) rfl (by kernel_rfl) (by kernel_rfl) (by kernel_rfl) (fun _ _ _ h => h) (Or.inl ⟨by rfl, fun w' hSw => ?_⟩) HS.out ?_
      · have h := hSw.2
        go_simp
      simp only [Act.put, List.setIfInBounds_toArray, List.set_cons_succ, List.set_cons_zero]
      refine wpAnyH_ready (rs := [6]) (by kernel_rfl) (by simp) ?_
      refine AllReadyH.cons (i := 6) rfl (fun K hK => ?_) AllReadyH.nil
      rw [if_pos (by rfl)]
      refine step_store_row 66 _ _ rfl n 66 (hdC 0 0 ⟨#[]⟩ ⟨#[]⟩ ⟨#[]⟩ 0 0 0 false (.slice none 0 0)) (hdC 0 (V : Int) D S T (l6 : Int) 0 0 false (.slice none 0 0)) rfl rfl RS.out rfl (by kernel_rfl) (hdC_one _ _ _ _ _ _ _ _ _) ?_
      intro w9 rs
      have RS9 := Lib.hid rs
      have HS9 : Hid (Kept n (PE) (hdC 0 (V : Int) D S T (l6 : Int) 0 0 false (.slice none 0 0)) w9) := Lib.hid ⟨rs.keep (by omega) HS.out.1, by rw [rs.chg.cell (p := ⟨n + 1, 1, none⟩) (by have := lt_row HD.out; show n + 1 < w8.heap.size; omega) (by show n + 1 ≠ n; omega)]; exact HS.out.2⟩
      clear rs
      refine hK.out _ _ HS9.out (fun _ => ?_)
      clear hK K HS
      have HS := HS9
      clear HS9
      simp only [Act.put, List.setIfInBounds_toArray, List.set_cons_succ, List.set_cons_zero]
      refine wpAnyH_take (i := 7) (oi := ⟨some 3, _, _, _, _, _⟩) (v := .int .i64 (p6 : Int)) rfl (by kernel_rfl) (by kernel_rfl) (by kernel_rfl) (fun _ _ _ h => h) (Or.inl ⟨by rfl, fun w' hSw => ?_⟩) HS.out ?_
      · go_simp
      simp only [Act.put, List.setIfInBounds_toArray, List.set_cons_succ, List.set_cons_zero]
      refine wpAnyH_take (i := 8) (oi := ⟨some 4, _, _, _, _, _⟩) (v := .int .i64 (PE : Int)) rfl (by kernel_rfl) (by kernel_rfl) (by kernel_rfl) (fun _ _ _ h => h) (Or.inl ⟨by rfl, fun w' hSw => ?_⟩) HS.out ?_
      · go_simp
      simp only [Act.put, List.setIfInBounds_toArray, List.set_cons_succ, List.set_cons_zero]
      refine wpAnyH_take (i := 9) (oi := ⟨some 5, _, _, _, _, _⟩) (v := .int .i64 0) rfl (by kernel_rfl) (by kernel_rfl) (by kernel_rfl) (fun _ _ _ h => h) (Or.inl ⟨by rfl, fun w' hSw => ?_⟩) HS.out ?_
      · go_simp
      simp only [Act.put, List.setIfInBounds_toArray, List.set_cons_succ, List.set_cons_zero]
      refine wpAnyH_done (by kernel_rfl) ?_ _
      go_wp2_with fail
      refine bodyPost_ret (results_hd rfl _ _ n 66 (hdC 0 (V : Int) D S T (l6 : Int) 0 0 false (.slice none 0 0)) (0, 0) _ rfl RS9.out.row Tryd.underlying66 ⟨_, rfl⟩ (by kernel_rfl)) rfl ?_
      rw [← GD.out]
      exact ⟨none, 0, rfl, by rw [HNS.out]; exact INW.out, (I8.out.chg ((Chg.refl n w8).drew.trans RS9.out.chg) IN0.out), by rw [HNS.out]; exact BL.out.drew.trans (RS9.out.below n (by omega))⟩
    · rw [if_neg hE0] at hgd
      have GD := Lib.hid hgd
      clear hgd
      have HE0 := Lib.hid hE0
      go_upto_region 21 with (fail)
      have HS : Hid (w8.drew.cell? ⟨n + 1, 2, none⟩ = some (.int .i64 E)) := Lib.hid r2
      clear r0 r1 r2 c0 c1 c2 c3 c4 c5 c9
      refine wp_region_held_drew (S := fun w' => w'.cell? ⟨n + 1, 2, none⟩ = some (.int .i64 E)) mixedOrders HS.out (fun hHeld => ?_)
      clear hHeld
      refine wpAnyH_take (i := 0) (oi := ⟨some 72, _, _, _, _, _⟩) (v := .agg (hdC 0 0 ⟨#[]⟩ ⟨#[]⟩ ⟨#[]⟩ 0 0 0 false (.slice none 0 0))) rfl (by kernel_rfl) (by kernel_rfl) (by kernel_rfl) (fun _ _ _ h => h) (Or.inl ⟨by rfl, fun w' hSw => ?_⟩) HS.out ?_
      · have h := build_hd0 w'
        go_simp
        rfl
      simp only [Act.put, List.setIfInBounds_toArray, List.set_cons_succ, List.set_cons_zero]
      refine wpAnyH_take (i := 1) (oi := ⟨some 73, _, _, _, _, _⟩) (v := .pointer (some ⟨n + 1, 0, none⟩)) rfl (by kernel_rfl) (by kernel_rfl) (by kernel_rfl) (fun _ _ _ h => h) (Or.inl ⟨by rfl, fun w' hSw => ?_⟩) HS.out ?_
      · go_simp
      simp only [Act.put, List.setIfInBounds_toArray, List.set_cons_succ, List.set_cons_zero]
      refine wpAnyH_take (i := 2) (oi := ⟨some 74, _, _, _, _, _⟩) (v := .pointer (some ⟨n + 1, 0, none⟩)) rfl (by kernel_rfl) (by kernel_rfl) (by kernel_rfl) (fun _ _ _ h => h) (Or.inl ⟨by rfl, fun w' hSw => ?_⟩) HS.out ?_
      · go_simp
      simp only [Act.put, List.setIfInBounds_toArray, List.set_cons_succ, List.set_cons_zero]
      refine wpAnyH_take (i := 3) (oi := ⟨some 75, _, _, _, _, _⟩) (v := .pointer (some ⟨n + 1, 2, none⟩)) rfl (by kernel_rfl) (by kernel_rfl) (by kernel_rfl) (fun _ _ _ h => h) (Or.inl ⟨by rfl, fun w' hSw => ?_⟩) HS.out ?_
      · go_simp
      simp only [Act.put, List.setIfInBounds_toArray, List.set_cons_succ, List.set_cons_zero]
      refine wpAnyH_take (i := 4) (oi := ⟨some 76, _, _, _, _, _⟩) (v := .int .i64 E) rfl (by kernel_rfl) (by kernel_rfl) (by kernel_rfl) (fun _ _ _ h => h) (Or.inl ⟨by rfl, fun w' hSw => ?_⟩) HS.out ?_
      · go_simp
      simp only [Act.put, List.setIfInBounds_toArray, List.set_cons_succ, List.set_cons_zero]
      refine wpAnyH_ready (rs := [5]) (by kernel_rfl) (by simp) ?_
      refine AllReadyH.cons (i := 5) rfl (fun K hK => ?_) AllReadyH.nil
      rw [if_pos (by rfl)]
      refine step_store_row 66 _ _ rfl n 66 (hdC 0 0 ⟨#[]⟩ ⟨#[]⟩ ⟨#[]⟩ 0 0 0 false (.slice none 0 0)) (hdC 0 0 ⟨#[]⟩ ⟨#[]⟩ ⟨#[]⟩ 0 0 0 false (.slice none 0 0)) rfl rfl RS.out rfl (by kernel_rfl) (hdC_one _ _ _ _ _ _ _ _ _) ?_
      intro w9 rs
      have RS9 := Lib.hid rs
      have HS9 : Hid (w9.cell? ⟨n + 1, 2, none⟩ = some (.int .i64 E)) := Lib.hid (by rw [rs.chg.cell (p := ⟨n + 1, 2, none⟩) (by have := lt_row HD.out; show n + 1 < w8.heap.size; omega) (by show n + 1 ≠ n; omega)]; exact HS.out)
      clear rs
      refine hK.out _ _ HS9.out (fun _ => ?_)
      clear hK K HS
      have HS := HS9
      clear HS9
      simp only [Act.put, List.setIfInBounds_toArray, List.set_cons_succ, List.set_cons_zero]
      refine wpAnyH_take (i := 6) (oi := ⟨some 3, _, _, _, _, _⟩) (v := .int .i64 0) rfl (by kernel_rfl) (by kernel_rfl) (by kernel_rfl) (fun _ _ _ h => h) (Or.inl ⟨by rfl, fun w' hSw => ?_⟩) HS.out ?_
      · go_simp
      simp only [Act.put, List.setIfInBounds_toArray, List.set_cons_succ, List.set_cons_zero]
      refine wpAnyH_take (i := 7) (oi := ⟨some 4, _, _, _, _, _⟩) (v := .int .i64 0) rfl (by kernel_rfl) (by kernel_rfl) (by kernel_rfl) (fun _ _ _ h => h) (Or.inl ⟨by rfl, fun w' hSw => ?_⟩) HS.out ?_
      · go_simp
      simp only [Act.put, List.setIfInBounds_toArray, List.set_cons_succ, List.set_cons_zero]
      refine wpAnyH_take (i := 8) (oi := ⟨some 5, _, _, _, _, _⟩) (v := .int .i64 E) rfl (by kernel_rfl) (by kernel_rfl) (by kernel_rfl) (fun _ _ _ h => h) (Or.inl ⟨by rfl, fun w' hSw => ?_⟩) HS.out ?_
      · go_simp
      simp only [Act.put, List.setIfInBounds_toArray, List.set_cons_succ, List.set_cons_zero]
      refine wpAnyH_done (by kernel_rfl) ?_ _
      go_wp2_with fail
      refine bodyPost_ret (results_hd rfl _ _ n 66 (hdC 0 0 ⟨#[]⟩ ⟨#[]⟩ ⟨#[]⟩ 0 0 0 false (.slice none 0 0)) (0, 0) _ rfl RS9.out.row Tryd.underlying66 ⟨_, rfl⟩ (by kernel_rfl)) rfl ?_
      rw [← GD.out]
      exact ⟨none, 0, rfl, (fun y hy => by cases hy), ints_none _, by rw [HNS.out]; exact BL.out.drew.trans (RS9.out.below n (by omega))⟩
  · rw [if_neg h0] at hg
    have hm0 : ((m : Int) == 0) = false := beq_eq_false_iff_ne.2 (by omega)
    have hm0i : ¬ (m : Int) = 0 := by omega
    have hm5 : ((m : Int) == 5) = false := beq_eq_false_iff_ne.2 (by omega)
    have hm5i : ¬ (m : Int) = 5 := by omega
    generalize hl6 : ctV len f p3 16383 e3 = l6 at hg
    generalize hp6 : ctP len f p3 e3 = p6 at hg
    generalize he6 : ctE len f p3 16383 e3 = e6 at hg
    have CU := Lib.hid (show Calls Tryd.prog 81 #[.pointer (some ⟨n + 1, 0, none⟩), .int .i64 16383] w6 (RdPost (n + 1) (some ⟨b, off, none⟩) len cap f w6 (.int .i64 (l6 : Int)) p6 e6) from by
      rw [← hl6, ← hp6, ← he6]; exact counted_any LS3.out.rd 16383)
    have HG2 := Lib.hid hg
    clear hg hl6 hp6 he6
    go_upto_region 10 with (fail)
    clear c0 c1 c2 c3 c4 c5 c9
    go_wp2_with fail
    with_reducible refine CU.out.mono ?_
    rintro x wd ⟨rfl, hd, gd⟩
    have ls5 := LS3.out.step hd gd
    have fr := ls5.free 5
    have LS := Lib.hid (ls5.put 5 (.int .i64 (l6 : Int)) rfl NB.out)
    obtain ⟨c0, c1, c2, c3, c4, c5, c9⟩ := ls5.cells
    have IN : Hid (∀ y, (none : Option Addr) = some y → y.block ≠ n + 1) := Lib.hid (fun y hy => by cases hy)
    have INW : Hid (∀ y, (none : Option Addr) = some y → n ≤ y.block) := Lib.hid (fun y hy => by cases hy)
    have IN0 : Hid (∀ y, (none : Option Addr) = some y → y.block ≠ n) := Lib.hid (fun y hy => by cases hy)
    clear hd gd ls5 CU hm0 hm0i hm5 hm5i hm3 hm3i
    go_upto_region 18 with (fail)
    have IL : Hid (IntsIn (World.setCell wd ⟨n + 2, 5, none⟩ (.int .i64 (l6 : Int))) (.slice none ([] : List Int).length 0) []) := Lib.hid (ILN _)
    generalize World.setCell _ _ _ = w9 at *
    have T1 := Lib.hid (take_at LS.out.rd (l6) (l6 : Int) rfl)
    obtain ⟨r0, r1, r2⟩ := cells3 LS.out.rd.row
    obtain ⟨c0, c1, c2, c3, c4, c5, c9⟩ := LS.out.cells
    have hgd := HG2.out
    unfold longEnd at hgd
    generalize hE : tkE len p6 e6 (l6) = E at T1 hgd
    generalize hN : p6 + tkN len p6 e6 (l6) = PE at T1 hgd
    go_wp2_with fail
    with_reducible refine T1.out.mono ?_
    rintro x w8 ⟨a', c', rfl, _, _, _, h8, g8⟩
    have ls := LS.out.step h8 g8
    obtain ⟨r0, r1, r2⟩ := cells3 h8.row
    have RS := Lib.hid ls.rs
    have HD := Lib.hid ls.hd
    have BL := Lib.hid ls.bl
    have I8 := Lib.hid (IL.out.chg g8 IN.out)
    clear ls h8 g8 T1
    by_cases hE0 : E = 0
    · rw [if_pos hE0] at hgd
      subst hE0
      have GD := Lib.hid hgd
      clear hgd
      go_upto_region 22 with (fail)
      have LD := Lib.hid (load_hd HD.out)
      have HS : Hid (Kept n (PE) (hdC (m : Int) (V : Int) D S ⟨#[]⟩ (l6 : Int) 0 0 false (.slice none 0 0)) w8.drew) := Lib.hid ⟨HD.out, r1⟩
      clear r0 r1 r2 c0 c1 c2 c3 c4 c5 c9
      refine wp_region_held_drew (S := Kept n (PE) (hdC (m : Int) (V : Int) D S ⟨#[]⟩ (l6 : Int) 0 0 false (.slice none 0 0))) mixedOrders HS.out (fun hHeld => ?_)
      clear hHeld
      refine wpAnyH_take (i := 0) (oi := ⟨some 77, _, _, _, _, _⟩) (v := .agg (hdC (m : Int) (V : Int) D S ⟨#[]⟩ (l6 : Int) 0 0 false (.slice none 0 0))) rfl (by kernel_rfl) (by kernel_rfl) (by kernel_rfl) (fun _ _ _ h => h) (Or.inl ⟨by rfl, fun w' hSw => ?_⟩) HS.out ?_
      · exact load_hd0 hSw.1
      simp only [Act.put, List.setIfInBounds_toArray, List.set_cons_succ, List.set_cons_zero]
      refine wpAnyH_take (i := 1) (oi := ⟨some 78, _, _, _, _, _⟩) (v := .int .i64 (p6 : Int)) rfl (by kernel_rfl) (by kernel_rfl) (by kernel_rfl) (fun _ _ _ h => h) (Or.inl ⟨by rfl, fun w' hSw => ?_⟩) HS.out ?_
      · go_simp
      simp only [Act.put, List.setIfInBounds_toArray, List.set_cons_succ, List.set_cons_zero]
      refine wpAnyH_take (i := 2) (oi := ⟨some 79, _, _, _, _, _⟩) (v := .pointer (some ⟨n + 1, 0, none⟩)) rfl (by kernel_rfl) (by kernel_rfl) (by kernel_rfl) (fun _ _ _ h => h) (Or.inl ⟨by rfl, fun w' hSw => ?_⟩) HS.out ?_
      · go_simp
      simp only [Act.put, List.setIfInBounds_toArray, List.set_cons_succ, List.set_cons_zero]
      refine wpAnyH_take (i := 3) (oi := ⟨some 80, _, _, _, _, _⟩) (v := .pointer (some ⟨n + 1, 0, none⟩)) rfl (by kernel_rfl) (by kernel_rfl) (by kernel_rfl) (fun _ _ _ h => h) (Or.inl ⟨by rfl, fun w' hSw => ?_⟩) HS.out ?_
      · go_simp
      simp only [Act.put, List.setIfInBounds_toArray, List.set_cons_succ, List.set_cons_zero]
      refine wpAnyH_take (i := 4) (oi := ⟨some 81, _, _, _, _, _⟩) (v := .pointer (some ⟨n + 1, 1, none⟩)) rfl (by kernel_rfl) (by kernel_rfl) (by kernel_rfl) (fun _ _ _ h => h) (Or.inl ⟨by rfl, fun w' hSw => ?_⟩) HS.out ?_
      · go_simp
      simp only [Act.put, List.setIfInBounds_toArray, List.set_cons_succ, List.set_cons_zero]
      refine wpAnyH_take (i := 5) (oi := ⟨some 82, _, _, _, _, _⟩) (v := .int .i64 (PE : Int)) rfl (by kernel_rfl) (by kernel_rfl) (by kernel_rfl) (fun _ _ _ h => h) (Or.inl ⟨by rfl, fun w' hSw => ?_⟩) HS.out ?_
      · have h := hSw.2
        go_simp
      simp only [Act.put, List.setIfInBounds_toArray, List.set_cons_succ, List.set_cons_zero]
      refine wpAnyH_ready (rs := [6]) (by kernel_rfl) (by simp) ?_
      refine AllReadyH.cons (i := 6) rfl (fun K hK => ?_) AllReadyH.nil
      rw [if_pos (by rfl)]
      refine step_store_row 66 _ _ rfl n 66 (hdC 0 0 ⟨#[]⟩ ⟨#[]⟩ ⟨#[]⟩ 0 0 0 false (.slice none 0 0)) (hdC (m : Int) (V : Int) D S ⟨#[]⟩ (l6 : Int) 0 0 false (.slice none 0 0)) rfl rfl RS.out rfl (by kernel_rfl) (hdC_one _ _ _ _ _ _ _ _ _) ?_
      intro w9 rs
      have RS9 := Lib.hid rs
      have HS9 : Hid (Kept n (PE) (hdC (m : Int) (V : Int) D S ⟨#[]⟩ (l6 : Int) 0 0 false (.slice none 0 0)) w9) := Lib.hid ⟨rs.keep (by omega) HS.out.1, by rw [rs.chg.cell (p := ⟨n + 1, 1, none⟩) (by have := lt_row HD.out; show n + 1 < w8.heap.size; omega) (by show n + 1 ≠ n; omega)]; exact HS.out.2⟩
      clear rs
      refine hK.out _ _ HS9.out (fun _ => ?_)
      clear hK K HS
      have HS := HS9
      clear HS9
      simp only [Act.put, List.setIfInBounds_toArray, List.set_cons_succ, List.set_cons_zero]
      refine wpAnyH_take (i := 7) (oi := ⟨some 3, _, _, _, _, _⟩) (v := .int .i64 (p6 : Int)) rfl (by kernel_rfl) (by kernel_rfl) (by kernel_rfl) (fun _ _ _ h => h) (Or.inl ⟨by rfl, fun w' hSw => ?_⟩) HS.out ?_
      · go_simp
      simp only [Act.put, List.setIfInBounds_toArray, List.set_cons_succ, List.set_cons_zero]
      refine wpAnyH_take (i := 8) (oi := ⟨some 4, _, _, _, _, _⟩) (v := .int .i64 (PE : Int)) rfl (by kernel_rfl) (by kernel_rfl) (by kernel_rfl) (fun _ _ _ h => h) (Or.inl ⟨by rfl, fun w' hSw => ?_⟩) HS.out ?_
      · go_simp
      simp only [Act.put, List.setIfInBounds_toArray, List.set_cons_succ, List.set_cons_zero]
      refine wpAnyH_take (i := 9) (oi := ⟨some 5, _, _, _, _, _⟩) (v := .int .i64 0) rfl (by kernel_rfl) (by kernel_rfl) (by kernel_rfl) (fun _ _ _ h => h) (Or.inl ⟨by rfl, fun w' hSw => ?_⟩) HS.out ?_
      · go_simp
      simp only [Act.put, List.setIfInBounds_toArray, List.set_cons_succ, List.set_cons_zero]
      refine wpAnyH_done (by kernel_rfl) ?_ _
      go_wp2_with fail
      refine bodyPost_ret (results_hd rfl _ _ n 66 (hdC (m : Int) (V : Int) D S ⟨#[]⟩ (l6 : Int) 0 0 false (.slice none 0 0)) (0, 0) _ rfl RS9.out.row Tryd.underlying66 ⟨_, rfl⟩ (by kernel_rfl)) rfl ?_
      rw [← GD.out]
      exact ⟨none, 0, rfl, by rw [HNS.out]; exact INW.out, (I8.out.chg ((Chg.refl n w8).drew.trans RS9.out.chg) IN0.out), by rw [HNS.out]; exact BL.out.drew.trans (RS9.out.below n (by omega))⟩
    · rw [if_neg hE0] at hgd
      have GD := Lib.hid hgd
      clear hgd
      have HE0 := Lib.hid hE0
      go_upto_region 21 with (fail)
      have HS : Hid (w8.drew.cell? ⟨n + 1, 2, none⟩ = some (.int .i64 E)) := Lib.hid r2
      clear r0 r1 r2 c0 c1 c2 c3 c4 c5 c9
      refine wp_region_held_drew (S := fun w' => w'.cell? ⟨n + 1, 2, none⟩ = some (.int .i64 E)) mixedOrders HS.out (fun hHeld => ?_)
      clear hHeld
      refine wpAnyH_take (i := 0) (oi := ⟨some 72, _, _, _, _, _⟩) (v := .agg (hdC 0 0 ⟨#[]⟩ ⟨#[]⟩ ⟨#[]⟩ 0 0 0 false (.slice none 0 0))) rfl (by kernel_rfl) (by kernel_rfl) (by kernel_rfl) (fun _ _ _ h => h) (Or.inl ⟨by rfl, fun w' hSw => ?_⟩) HS.out ?_
      · have h := build_hd0 w'
        go_simp
        rfl
      simp only [Act.put, List.setIfInBounds_toArray, List.set_cons_succ, List.set_cons_zero]
      refine wpAnyH_take (i := 1) (oi := ⟨some 73, _, _, _, _, _⟩) (v := .pointer (some ⟨n + 1, 0, none⟩)) rfl (by kernel_rfl) (by kernel_rfl) (by kernel_rfl) (fun _ _ _ h => h) (Or.inl ⟨by rfl, fun w' hSw => ?_⟩) HS.out ?_
      · go_simp
      simp only [Act.put, List.setIfInBounds_toArray, List.set_cons_succ, List.set_cons_zero]
      refine wpAnyH_take (i := 2) (oi := ⟨some 74, _, _, _, _, _⟩) (v := .pointer (some ⟨n + 1, 0, none⟩)) rfl (by kernel_rfl) (by kernel_rfl) (by kernel_rfl) (fun _ _ _ h => h) (Or.inl ⟨by rfl, fun w' hSw => ?_⟩) HS.out ?_
      · go_simp
      simp only [Act.put, List.setIfInBounds_toArray, List.set_cons_succ, List.set_cons_zero]
      refine wpAnyH_take (i := 3) (oi := ⟨some 75, _, _, _, _, _⟩) (v := .pointer (some ⟨n + 1, 2, none⟩)) rfl (by kernel_rfl) (by kernel_rfl) (by kernel_rfl) (fun _ _ _ h => h) (Or.inl ⟨by rfl, fun w' hSw => ?_⟩) HS.out ?_
      · go_simp
      simp only [Act.put, List.setIfInBounds_toArray, List.set_cons_succ, List.set_cons_zero]
      refine wpAnyH_take (i := 4) (oi := ⟨some 76, _, _, _, _, _⟩) (v := .int .i64 E) rfl (by kernel_rfl) (by kernel_rfl) (by kernel_rfl) (fun _ _ _ h => h) (Or.inl ⟨by rfl, fun w' hSw => ?_⟩) HS.out ?_
      · go_simp
      simp only [Act.put, List.setIfInBounds_toArray, List.set_cons_succ, List.set_cons_zero]
      refine wpAnyH_ready (rs := [5]) (by kernel_rfl) (by simp) ?_
      refine AllReadyH.cons (i := 5) rfl (fun K hK => ?_) AllReadyH.nil
      rw [if_pos (by rfl)]
      refine step_store_row 66 _ _ rfl n 66 (hdC 0 0 ⟨#[]⟩ ⟨#[]⟩ ⟨#[]⟩ 0 0 0 false (.slice none 0 0)) (hdC 0 0 ⟨#[]⟩ ⟨#[]⟩ ⟨#[]⟩ 0 0 0 false (.slice none 0 0)) rfl rfl RS.out rfl (by kernel_rfl) (hdC_one _ _ _ _ _ _ _ _ _) ?_
      intro w9 rs
      have RS9 := Lib.hid rs
      have HS9 : Hid (w9.cell? ⟨n + 1, 2, none⟩ = some (.int .i64 E)) := Lib.hid (by rw [rs.chg.cell (p := ⟨n + 1, 2, none⟩) (by have := lt_row HD.out; show n + 1 < w8.heap.size; omega) (by show n + 1 ≠ n; omega)]; exact HS.out)
      clear rs
      refine hK.out _ _ HS9.out (fun _ => ?_)
      clear hK K HS
      have HS := HS9
      clear HS9
      simp only [Act.put, List.setIfInBounds_toArray, List.set_cons_succ, List.set_cons_zero]
      refine wpAnyH_take (i := 6) (oi := ⟨some 3, _, _, _, _, _⟩) (v := .int .i64 0) rfl (by kernel_rfl) (by kernel_rfl) (by kernel_rfl) (fun _ _ _ h => h) (Or.inl ⟨by rfl, fun w' hSw => ?_⟩) HS.out ?_
      · go_simp
      simp only [Act.put, List.setIfInBounds_toArray, List.set_cons_succ, List.set_cons_zero]
      refine wpAnyH_take (i := 7) (oi := ⟨some 4, _, _, _, _, _⟩) (v := .int .i64 0) rfl (by kernel_rfl) (by kernel_rfl) (by kernel_rfl) (fun _ _ _ h => h) (Or.inl ⟨by rfl, fun w' hSw => ?_⟩) HS.out ?_
      · go_simp
      simp only [Act.put, List.setIfInBounds_toArray, List.set_cons_succ, List.set_cons_zero]
      refine wpAnyH_take (i := 8) (oi := ⟨some 5, _, _, _, _, _⟩) (v := .int .i64 E) rfl (by kernel_rfl) (by kernel_rfl) (by kernel_rfl) (fun _ _ _ h => h) (Or.inl ⟨by rfl, fun w' hSw => ?_⟩) HS.out ?_
      · go_simp
      simp only [Act.put, List.setIfInBounds_toArray, List.set_cons_succ, List.set_cons_zero]
      refine wpAnyH_done (by kernel_rfl) ?_ _
      go_wp2_with fail
      refine bodyPost_ret (results_hd rfl _ _ n 66 (hdC 0 0 ⟨#[]⟩ ⟨#[]⟩ ⟨#[]⟩ 0 0 0 false (.slice none 0 0)) (0, 0) _ rfl RS9.out.row Tryd.underlying66 ⟨_, rfl⟩ (by kernel_rfl)) rfl ?_
      rw [← GD.out]
      exact ⟨none, 0, rfl, (fun y hy => by cases hy), ints_none _, by rw [HNS.out]; exact BL.out.drew.trans (RS9.out.below n (by omega))⟩
end Go.Proofs.YtcgbhcmgddgheaaDoor
