/-
  PACKET's getLong.
  PACKET's Get.
  PACKET's Get, of all bytes.
  THE LAW's from, THE DOCUMENT's Same.
  THE DOCUMENT's number AND name.
  WHAT getLong ANSWERS, CASE BY CASE.
  WHAT THE DOCUMENT's Get WANTS: bits, names, where it stands.
  THE DOCUMENT's Get OF LONG HEADERS WITH A VERSION.
  THE DOCUMENT's Get OF LONG HEADERS WITH NO VERSION.
-/
import Derived.Test.YtcgbhcmgddgheaaDoorRdD
import Derived.Test.YtcgbhcmgddgheaaDoorPackM
import Derived.Test.YtcgbhcmgddgheaaDoorEq
namespace Go.Proofs.YtcgbhcmgddgheaaDoor
open Go Go.RowKit Go.BigFrame
set_option linter.unusedSimpArgs false
set_option linter.unusedVariables false
set_option maxRecDepth 100000
/-- What Get answers. -/
structure Got where
  k : Int
  v : Int
  D : ByteArray
  S : ByteArray
  T : ByteArray
  l : Int
  G : List Int
  at_ : Nat
  en : Nat
  e : Int
def Got.no (e : Int) : Got := ⟨0, 0, ⟨#[]⟩, ⟨#[]⟩, ⟨#[]⟩, 0, [], 0, 0, e⟩
def Got.header (g : Got) (L : Value) : Value := .agg (hdC g.k g.v g.D g.S g.T g.l 0 0 false L)
/-- An answer as a value. -/
def GotPost (g : Got) (w : World) (x : Ending) (w' : World) : Prop :=
  ∃ aL cL, x = .returned (.tuple #[g.header (.slice aL g.G.length cL), .int .i64 (g.at_ : Int), .int .i64 (g.en : Int), .int .i64 g.e]) ∧ (∀ y, aL = some y → w.heap.size ≤ y.block) ∧ IntsIn w' (.slice aL g.G.length cL) g.G ∧ Below w.heap.size w w'
/-- Behind all parts: the packet's end. -/
def longEnd (len : Nat) (k v : Int) (D S T : ByteArray) (l : Nat) (G : List Int) (p : Nat) (e : Int) : Got :=
  if tkE len p e l = 0 then ⟨k, v, D, S, T, l, G, p, p + tkN len p e l, 0⟩ else Got.no (tkE len p e l)
/-- Behind the names: what hangs on the kind. -/
def longKind (f : Nat → BitVec 8) (len : Nat) (kd V : Nat) (D S : ByteArray) (p : Nat) (e : Int) : Got :=
  if V = 0 then longEnd len 5 (V : Int) D S ⟨#[]⟩ 0 (if vsE len p e = 0 then vsG f p ((len - p) / 4) else []) (if vsE len p e = 0 then len else p) (vsE len p e)
  else if kd = 3 then longEnd len 3 (V : Int) D S (strOf (fun i => f (p + i)) (txN len p (len - p) 512 e)) 0 [] (p + txN len p (len - p) 512 e) (txE len p (len - p) 512 e)
  else if kd = 0 then
    longEnd len 0 (V : Int) D S (strOf (fun i => f (ctP len f p e + i)) (txN len (ctP len f p e) (ctV len f p 512 e) 512 (ctE len f p 512 e)))
      (ctV len f (ctP len f p e + txN len (ctP len f p e) (ctV len f p 512 e) 512 (ctE len f p 512 e)) 16383 (txE len (ctP len f p e) (ctV len f p 512 e) 512 (ctE len f p 512 e))) []
      (ctP len f (ctP len f p e + txN len (ctP len f p e) (ctV len f p 512 e) 512 (ctE len f p 512 e)) (txE len (ctP len f p e) (ctV len f p 512 e) 512 (ctE len f p 512 e)))
      (ctE len f (ctP len f p e + txN len (ctP len f p e) (ctV len f p 512 e) 512 (ctE len f p 512 e)) 16383 (txE len (ctP len f p e) (ctV len f p 512 e) 512 (ctE len f p 512 e)))
  else longEnd len kd (V : Int) D S ⟨#[]⟩ (ctV len f p 16383 e) [] (ctP len f p e) (ctE len f p 16383 e)
def long (f : Nat → BitVec 8) (len : Nat) : Got :=
  longKind f len (f 0 >>> 4 &&& 3#8).toNat (numG (fun i => f (1 + i)) (tkN len 1 0 4))
    (nmS len f (1 + tkN len 1 0 4) (tkE len 1 0 4)) (nmS len f (nmP len f (1 + tkN len 1 0 4) (tkE len 1 0 4)) (nmE len f (1 + tkN len 1 0 4) (tkE len 1 0 4)))
    (nmP len f (nmP len f (1 + tkN len 1 0 4) (tkE len 1 0 4)) (nmE len f (1 + tkN len 1 0 4) (tkE len 1 0 4))) (nmE len f (nmP len f (1 + tkN len 1 0 4) (tkE len 1 0 4)) (nmE len f (1 + tkN len 1 0 4) (tkE len 1 0 4)))
theorem Rd.make {w w' : World} {b : Nat} {a : Option Addr} {len cap : Nat} {f : Nat → BitVec 8} (p : Nat) (hp : p ≤ len) (hB : BytesIn w a len f) (hlc : len ≤ cap) (hcm : cap ≤ maxLen) (hb : Below w.heap.size w w') (ha : ∀ x, a = some x → x.block ≠ b)
    (h : w'.heap[b]? = some (.cells (rdC a len cap p 0) 115 (0, 0))) : Rd w' b a len cap f p 0 := by
  refine ⟨h, ⟨hB.1, ?_⟩, hlc, hcm, hp, ha⟩
  rcases hB.2 with h0 | ⟨k, o, e1, hk, hc⟩
  · exact .inl h0
  · exact .inr ⟨k, o, e1, Nat.lt_of_lt_of_le hk hb.size, fun i hi => by rw [hb.cell (p := ⟨k, o + i, none⟩) hk]; exact hc i hi⟩
theorem take_at {w : World} {b : Nat} {a : Option Addr} {len cap : Nat} {f : Nat → BitVec 8} {p : Nat} {e : Int} (h : Rd w b a len cap f p e) (n : Nat) (z : Int) (hz : z = (n : Int)) :
    Calls Tryd.prog 82 #[.pointer (some ⟨b, 0, none⟩), .int .i64 z] w (TkPost b a len cap f w p (tkN len p e n) (p + tkN len p e n) (tkE len p e n)) := by
  subst hz
  exact take_any h n
theorem quiet_value2 {P : Program} {C : World → Prop} {o : Oper} {a : Act} {w : World} {v : Value} (h : (execOp a.eval o).run P w = .ok (.value v) w) (hw : C w) : o.quietAt P a C w v := by
  unfold Oper.quietAt
  rw [h]
  first | exact ⟨rfl, hw⟩ | exact ⟨rfl, rfl⟩
theorem step_store_row {P : Program} {op : Oper} {a : Act} {w : World} {K : Act → World → Prop} {Q : Exit → Act → World → Prop} (ty : TypeId) (x y : Operand) (ho : op.op = .store ty x y)
    (B : Nat) (T : TypeId) (cs cells : Array Value) (hx : a.eval x = .pointer (some ⟨B, 0, none⟩)) (hy : a.eval y = .agg cells)
    (hg : w.heap[B]? = some (.cells cs T (0, 0))) (hs : cs.size = cells.size) (hi : (P.info? ty).map (·.size) = some cells.size) (h1 : cells.all (·.oneCell') = true)
    (h : ∀ w', RowSet w B T cells w' → K (a.put op.dst undef) w') : Oper.wp P op a w K Q := by
  refine wp_store_mid ty x y ho B 0 cells hx hy (fun j hj => ?_) hi h1 (h _ (rowSet_store w B T cs cells hg hs))
  rw [Nat.zero_add]
  refine ⟨?_, frozen_of_row _ _ _ _ _ hg⟩
  rw [cell_of_row _ _ _ _ _ _ hg, Array.getElem?_eq_getElem (by omega)]
  rfl
/-- A header's row. -/
def HdAt (w : World) (H : Nat) (k v : Int) (D S T : ByteArray) (l : Int) (L : Value) : Prop := w.heap[H]? = some (.cells (hdC k v D S T l 0 0 false L) 66 (0, 0))
theorem quiet_run {P : Program} {x : Sem Value} {v : Value} {w : World} (h : x.run P w = .ok v w) : (x >>= fun v => pure (Next.value v)).run P w = .ok (.value v) w := by
  rw [Sem.run_bind, h]; rfl
theorem hdC_one (k v : Int) (D S T : ByteArray) (l : Int) (aL : Option Addr) (m cL : Nat) : (hdC k v D S T l 0 0 false (.slice aL m cL)).all (·.oneCell') = true := by
  simp [hdC, Value.oneCell']
theorem load_hd {w : World} {H : Nat} {k v : Int} {D S T : ByteArray} {l : Int} {L : Value} (h : HdAt w H k v D S T l L) : (Instr.loadAt 66 (.pointer (some ⟨H, 0, none⟩))).run Tryd.prog w = .ok (.agg (hdC k v D S T l 0 0 false L)) w := by
  have h1 := run_loadAt_mid (P := Tryd.prog) w H 0 66 (hdC k v D S T l 0 0 false L).toList _ (fun j u hj => by
    rw [Nat.zero_add, cell_of_row _ _ _ _ _ _ h]
    simpa using hj) Tryd.underlying66 rfl (by kernel_rfl)
  simpa using h1
theorem results_hd {fn : Func} {p t1 t2 t3 : Tmp} {ty : TypeId} (hf : fn.results = #[.cell p ty, .tmp t1, .tmp t2, .tmp t3]) (tmps : Array Value) (w : World) (g : Nat) (t : TypeId) (cs : Array Value) (fr : Nat × Nat) (d : TypeDesc)
    (hp : tmps.getD p undef = .pointer (some ⟨g, 0, none⟩)) (hg : w.heap[g]? = some (.cells cs t fr))
    (hu : Tryd.prog.underlying ty = some d) (hd : ∃ fs, d = .struct fs) (hi : (Tryd.prog.info? ty).map (·.size) = some cs.size) :
    (results fn tmps).run Tryd.prog w = .ok (.tuple #[.agg cs, tmps.getD t1 undef, tmps.getD t2 undef, tmps.getD t3 undef]) w := by
  have hp' : tmps[p]?.getD undef = .pointer (some ⟨g, 0, none⟩) := by simpa using hp
  obtain ⟨fs, rfl⟩ := hd
  simp [results, hf, hp', asAddr, run_loadVar_row w g t ty cs fr _ hg hu rfl hi]
/-- What a drawn region's reads want: the header, where the reader stands. -/
def Kept (n PE : Nat) (c : Array Value) (w : World) : Prop := w.heap[n + 2]? = some (.cells c 66 (0, 0)) ∧ w.cell? ⟨n + 1, 1, none⟩ = some (.int .i64 (PE : Int))
theorem load_hd0 {w : World} {H : Nat} {k v : Int} {D S T : ByteArray} {l : Int} {L : Value} (h : HdAt w H k v D S T l L) : (Instr.loadAt 66 (.pointer (some ⟨H, 0, none⟩)) >>= fun v => pure (Next.value v)).run Tryd.prog w = .ok (.value (.agg (hdC k v D S T l 0 0 false L))) w := quiet_run (load_hd (w := w) h)
theorem build_hd (w : World) : (Instr.build 66 #[] >>= fun v => pure (Next.value v)).run Tryd.prog w = .ok (.value (.agg (hdC 0 0 ⟨#[]⟩ ⟨#[]⟩ ⟨#[]⟩ 0 0 0 false (.slice none 0 0)))) w :=
  quiet_run (run_build w _ _ _ (by kernel_rfl))
theorem build_hd0 (w : World) : (Instr.build 66 #[]).run Tryd.prog w = .ok (.agg (hdC 0 0 ⟨#[]⟩ ⟨#[]⟩ ⟨#[]⟩ 0 0 0 false (.slice none 0 0))) w := run_build w _ _ _ (by kernel_rfl)
/-- Where getLong stands: the reader, the header, the result's row. -/
structure LSt (w0 : World) (n : Nat) (a : Option Addr) (len cap : Nat) (f : Nat → BitVec 8) (w : World) (p : Nat) (e : Int) (k v : Int) (D S T : ByteArray) (l : Int) (L : Value) : Prop where
  rd : Rd w (n + 1) a len cap f p e
  hd : HdAt w (n + 2) k v D S T l L
  rs : HdAt w n 0 0 ⟨#[]⟩ ⟨#[]⟩ ⟨#[]⟩ 0 (.slice none 0 0)
  bl : Below n w0 w
section
variable {w0 w w' : World} {n : Nat} {a : Option Addr} {len cap : Nat} {f : Nat → BitVec 8} {p p' : Nat} {e e' : Int} {k v : Int} {D S T : ByteArray} {l : Int} {L : Value}
theorem LSt.step (h : LSt w0 n a len cap f w p e k v D S T l L) (hr : Rd w' (n + 1) a len cap f p' e') (hc : Chg (n + 1) w w') : LSt w0 n a len cap f w' p' e' k v D S T l L :=
  ⟨hr, hc.row (by omega) h.hd, hc.row (by omega) h.rs, h.bl.trans (hc.below (by omega) (by have := lt_row h.rs; omega))⟩
theorem LSt.put (h : LSt w0 n a len cap f w p e k v D S T l L) (j : Nat) (x : Value) {k' v' : Int} {D' S' T' : ByteArray} {l' : Int} {L' : Value} (hx : (hdC k v D S T l 0 0 false L).setIfInBounds j x = hdC k' v' D' S' T' l' 0 0 false L')
    (ha : ∀ y, a = some y → y.block ≠ n + 2) : LSt w0 n a len cap f (w.setCell ⟨n + 2, j, none⟩ x) p e k' v' D' S' T' l' L' := by
  have st := rowSet_cell w (n + 2) j _ _ x h.hd
  rw [hx] at st
  exact ⟨h.rd.chg st.chg (by omega) ha, st.row, st.keep (by omega) h.rs, h.bl.trans (st.below n (by omega))⟩
theorem LSt.cells (h : LSt w0 n a len cap f w p e k v D S T l L) : w.cell? ⟨n + 2, 0, none⟩ = some (.int .i64 k) ∧ w.cell? ⟨n + 2, 1, none⟩ = some (.int .i64 v) ∧ w.cell? ⟨n + 2, 2, none⟩ = some (.string D) ∧ w.cell? ⟨n + 2, 3, none⟩ = some (.string S) ∧ w.cell? ⟨n + 2, 4, none⟩ = some (.string T) ∧ w.cell? ⟨n + 2, 5, none⟩ = some (.int .i64 l) ∧ w.cell? ⟨n + 2, 9, none⟩ = some L := by
  obtain ⟨c0, c1, c2, c3, c4, c5, _, _, _, c9⟩ := cells10 h.hd
  exact ⟨c0, c1, c2, c3, c4, c5, c9⟩
theorem LSt.free (h : LSt w0 n a len cap f w p e k v D S T l L) (j : Nat) : w.frozen? ⟨n + 2, j, none⟩ = false := frozen_of_row _ _ _ _ _ h.hd
end
set_option maxHeartbeats 16000000 in
theorem getLong_any (f : Nat → BitVec 8) (b off len cap : Nat) (w : World) (hl : 1 ≤ len) (hB : BytesIn w (some ⟨b, off, none⟩) len f) (hlc : len ≤ cap) (hcm : cap ≤ maxLen) :
    Calls Tryd.prog 69 #[.slice (some ⟨b, off, none⟩) len cap] w (GotPost (long f len) w) := by
  have zt : (Tryd.prog.info? 66).map (·.zero) = some (some (.agg (hdC 0 0 ⟨#[]⟩ ⟨#[]⟩ ⟨#[]⟩ 0 0 0 false (.slice none 0 0)))) := by kernel_rfl
  have HBI := Lib.hid hB
  obtain ⟨hbs, hc0⟩ : b < w.heap.size ∧ ∀ i, i < len → w.cell? ⟨b, off + i, none⟩ = some (.int .u8 (n8 (f i))) := by
    rcases hB.2 with h0 | ⟨k, o, e1, hk, hc⟩
    · omega
    · injection e1 with e1; injection e1 with e1 e2; subst e1; subst e2; exact ⟨hk, hc⟩
  have CELL : Hid (w.cell? ⟨b, off, none⟩ = some (.int .u8 (n8 (f 0)))) := Lib.hid (by have h := hc0 0 (by omega); simpa using h)
  clear hB hc0
  obtain ⟨g, hg⟩ : ∃ g, long f len = g := ⟨_, rfl⟩
  rw [hg]
  unfold long at hg
  generalize hV : numG (fun i => f (1 + i)) (tkN len 1 0 4) = V at hg
  generalize hp1 : 1 + tkN len 1 0 4 = p1 at hg
  generalize he1 : tkE len 1 0 4 = e1 at hg
  generalize hD : nmS len f p1 e1 = D at hg
  generalize hp2 : nmP len f p1 e1 = p2 at hg
  generalize he2 : nmE len f p1 e1 = e2 at hg
  generalize hS : nmS len f p2 e2 = S at hg
  generalize hp3 : nmP len f p2 e2 = p3 at hg
  generalize he3 : nmE len f p2 e2 = e3 at hg
  generalize hkd : f 0 >>> 4 &&& 3#8 = kd at hg
  have HG := Lib.hid hg
  have HD1 := Lib.hid (And.intro hV (And.intro hp1 he1))
  have HD2 := Lib.hid (And.intro hD (And.intro hp2 he2))
  have HD3 := Lib.hid (And.intro hS (And.intro hp3 he3))
  clear hg hV hp1 he1 hD hp2 he2 hS hp3 he3
  obtain ⟨m, hm⟩ : ∃ m : Nat, kd.toNat = m := ⟨_, rfl⟩
  have hw : wrap64 (n8 kd) = (m : Int) := by rw [n8_nat, ← hm]; have := kd.isLt; unfold wrap64; omega
  rw [hm] at HG
  have hm4 : m < 4 := by rw [← hm, ← hkd, BitVec.toNat_and]; exact Nat.lt_of_le_of_lt Nat.and_le_right (by decide)
  clear hm
  go_enter Tryd.func69, Tryd.ntmps69
  go_upto_region 3 with (first
    | (refine wpList_alloc_row (o := ⟨some 2, .alloc 66, _, _, _, _⟩) rfl 66 rfl _ zt ?_)
    | (refine wpList_alloc_row (o := ⟨some 7, .alloc 66, _, _, _, _⟩) rfl 66 rfl _ zt ?_)
    | fail)
  have r0 := rows_alloc w [.cells (hdC 0 0 ⟨#[]⟩ ⟨#[]⟩ ⟨#[]⟩ 0 0 0 false (.slice none 0 0)) 66, .cells #[.slice (some ⟨b, off, none⟩) len cap, .int .i64 1, .int .i64 0] 115, .cells (hdC 0 0 ⟨#[]⟩ ⟨#[]⟩ ⟨#[]⟩ 0 0 0 false (.slice none 0 0)) 66] 0
  have r1 := rows_alloc w [.cells (hdC 0 0 ⟨#[]⟩ ⟨#[]⟩ ⟨#[]⟩ 0 0 0 false (.slice none 0 0)) 66, .cells #[.slice (some ⟨b, off, none⟩) len cap, .int .i64 1, .int .i64 0] 115, .cells (hdC 0 0 ⟨#[]⟩ ⟨#[]⟩ ⟨#[]⟩ 0 0 0 false (.slice none 0 0)) 66] 1
  have r2 := rows_alloc w [.cells (hdC 0 0 ⟨#[]⟩ ⟨#[]⟩ ⟨#[]⟩ 0 0 0 false (.slice none 0 0)) 66, .cells #[.slice (some ⟨b, off, none⟩) len cap, .int .i64 1, .int .i64 0] 115, .cells (hdC 0 0 ⟨#[]⟩ ⟨#[]⟩ ⟨#[]⟩ 0 0 0 false (.slice none 0 0)) 66] 2
  have bel : Below w.heap.size w (((w.alloc (.cells (hdC 0 0 ⟨#[]⟩ ⟨#[]⟩ ⟨#[]⟩ 0 0 0 false (.slice none 0 0)) 66)).alloc (.cells #[.slice (some ⟨b, off, none⟩) len cap, .int .i64 1, .int .i64 0] 115)).alloc (.cells (hdC 0 0 ⟨#[]⟩ ⟨#[]⟩ ⟨#[]⟩ 0 0 0 false (.slice none 0 0)) 66)) := (((Below.refl w.heap.size w).alloc (Nat.le_refl _) _).alloc (by simp) _).alloc (by simp; omega) _
  have hs2 : ((w.alloc (.cells (hdC 0 0 ⟨#[]⟩ ⟨#[]⟩ ⟨#[]⟩ 0 0 0 false (.slice none 0 0)) 66)).alloc (.cells #[.slice (some ⟨b, off, none⟩) len cap, .int .i64 1, .int .i64 0] 115)).heap.size = w.heap.size + 2 := by simp
  simp only [List.foldl_cons, List.foldl_nil, Nat.add_zero] at r0 r1 r2
  simp only [hs2, Act.put, List.setIfInBounds_toArray, List.set_cons_succ, List.set_cons_zero]
  generalize World.alloc _ _ = w1 at *
  have ls : LSt w w.heap.size (some ⟨b, off, none⟩) len cap f w1 1 0 0 0 ⟨#[]⟩ ⟨#[]⟩ ⟨#[]⟩ 0 (.slice none 0 0) :=
    ⟨Rd.make 1 hl HBI.out hlc hcm bel (fun x hx => by injection hx with hx; subst hx; show b ≠ _; omega) r1, r2, r0, bel⟩
  have NB : Hid (∀ y, some (⟨b, off, none⟩ : Addr) = some y → y.block ≠ w.heap.size + 2) := Lib.hid (fun y hy => by injection hy with hy; subst hy; show b ≠ _; omega)
  have HBS := Lib.hid hbs
  clear r0 r1 r2 bel hs2 zt
  have N := Lib.hid (number_any ls.rd 4 (by omega))
  rw [show ((4 : Nat) : Int) = 4 from rfl] at N
  rw [HD1.out.1, HD1.out.2.1, HD1.out.2.2] at N
  have LS := Lib.hid ls
  clear ls
  generalize hn : w.heap.size = n at *
  have HNS := Lib.hid hn
  clear hn
  go_wp2_with fail
  with_reducible refine N.out.mono ?_
  rintro x w2 ⟨rfl, h2, g2⟩
  have ls := LS.out.step h2 g2
  have fr := ls.free 1
  obtain ⟨c0, c1, c2, c3, c4, c5, c9⟩ := ls.cells
  have ls2 := ls.put 1 (.int .i64 (V : Int)) rfl NB.out
  have N := Lib.hid (name_any ls2.rd)
  rw [HD2.out.1, HD2.out.2.1, HD2.out.2.2] at N
  have LS := Lib.hid ls2
  clear ls h2 g2 ls2
  go_upto_region 4 with (fail)
  clear fr c0 c1 c2 c3 c4 c5 c9
  generalize World.setCell _ _ _ = w3 at *
  go_wp2_with fail
  with_reducible refine N.out.mono ?_
  rintro x w2 ⟨rfl, h2, g2⟩
  have ls := LS.out.step h2 g2
  have fr := ls.free 2
  obtain ⟨c0, c1, c2, c3, c4, c5, c9⟩ := ls.cells
  have ls2 := ls.put 2 (.string D) rfl NB.out
  have N := Lib.hid (name_any ls2.rd)
  rw [HD3.out.1, HD3.out.2.1, HD3.out.2.2] at N
  have LS := Lib.hid ls2
  clear ls h2 g2 ls2
  go_upto_region 5 with (fail)
  clear fr c0 c1 c2 c3 c4 c5 c9
  generalize World.setCell _ _ _ = w4 at *
  go_wp2_with fail
  with_reducible refine N.out.mono ?_
  rintro x w2 ⟨rfl, h2, g2⟩
  have ls := LS.out.step h2 g2
  have fr := ls.free 3
  obtain ⟨c0, c1, c2, c3, c4, c5, c9⟩ := ls.cells
  have ls2 := ls.put 3 (.string S) rfl NB.out
  have LS := Lib.hid ls2
  have fr3 := ls2.free 0
  have cell := (ls2.bl.cell (p := ⟨b, off, none⟩) HBS.out).trans CELL.out
  obtain ⟨d0, d1, d2, d3, d4, d5, d9⟩ := ls2.cells
  have ls3 := ls2.put 0 (.int .i64 (m : Int)) rfl NB.out
  have LS3 := Lib.hid ls3
  clear ls h2 g2 ls2 ls3
  go_upto_region 6 with (fail)
  clear fr c0 c1 c2 c3 c4 c5 c9
  generalize World.setCell _ _ _ = w5 at *
  go_upto_region 7 with (fail)
  clear cell hw hkd fr3 d0 d1 d2 d3 d4 d5 d9 LS
  generalize World.setCell _ _ _ = w6 at *
  obtain ⟨c0, c1, c2, c3, c4, c5, c9⟩ := LS3.out.cells
  by_cases hV0 : V = 0
  · subst hV0
    have fr := LS3.out.free 0
    have ls4 := LS3.out.put 0 (.int .i64 5) rfl NB.out
    have VS := Lib.hid (versions_any ls4.rd)
    have LS4 := Lib.hid ls4
    clear ls4
    go_upto_region 9 with (fail)
    clear fr c0 c1 c2 c3 c4 c5 c9
    generalize World.setCell _ _ _ = w7 at *
    obtain ⟨c0, c1, c2, c3, c4, c5, c9⟩ := LS4.out.cells
    have hg := HG.out
    unfold longKind at hg
    rw [if_pos rfl] at hg
    generalize (if vsE len p3 e3 = 0 then vsG f p3 ((len - p3) / 4) else []) = G at VS hg
    generalize (if vsE len p3 e3 = 0 then len else p3) = p4 at VS hg
    generalize vsE len p3 e3 = e4 at VS hg
    have HG2 := Lib.hid hg
    clear hg HG
    go_wp2_with fail
    with_reducible refine VS.out.mono ?_
    rintro x wv ⟨aL, cL, rfl, hnew, hi, hr, hc⟩
    have ls5 := LS4.out.step hr hc
    have fr := ls5.free 9
    have ls6 := ls5.put 9 (.slice aL G.length cL) rfl NB.out
    have IN : Hid (∀ y, aL = some y → y.block ≠ n + 1) := Lib.hid (fun y hy => by have h1 := hnew y hy; have h2 := lt_row LS4.out.hd; omega)
    have INW : Hid (∀ y, aL = some y → n ≤ y.block) := Lib.hid (fun y hy => by have h1 := hnew y hy; have h2 := lt_row LS4.out.hd; omega)
    have IN0 : Hid (∀ y, aL = some y → y.block ≠ n) := Lib.hid (fun y hy => by have h1 := hnew y hy; have h2 := lt_row LS4.out.hd; omega)
    have IL := Lib.hid (hi.chg (rowSet_cell wv (n + 2) 9 _ _ (.slice aL G.length cL) ls5.hd).chg (fun y hy => by have h1 := hnew y hy; have h2 := lt_row LS4.out.hd; omega))
    have LS := Lib.hid ls6
    clear c0 c1 c2 c3 c4 c5 c9 hr hc VS
    obtain ⟨c0, c1, c2, c3, c4, c5, c9⟩ := ls5.cells
    clear ls5 ls6
    go_upto_region 18 with (fail)
    generalize World.setCell _ _ _ = w9 at *
    have T1 := Lib.hid (take_at LS.out.rd (0) 0 rfl)
    obtain ⟨r0, r1, r2⟩ := cells3 LS.out.rd.row
    obtain ⟨c0, c1, c2, c3, c4, c5, c9⟩ := LS.out.cells
    have hgd := HG2.out
    unfold longEnd at hgd
    generalize hE : tkE len p4 e4 (0) = E at T1 hgd
    generalize hN : p4 + tkN len p4 e4 (0) = PE at T1 hgd
    go_wp2_with fail
    with_reducible refine T1.out.mono ?_
    rintro x w8 ⟨a', c', rfl, _, _, _, h8, g8⟩
    have ls := LS.out.step h8 g8
    obtain ⟨r0, r1, r2⟩ := cells3 h8.row
    have RS := Lib.hid ls.rs
    have HD := Lib.hid ls.hd
    have BL := Lib.hid ls.bl
    have I8 := Lib.hid (IL.out.chg g8 IN.out)
    clear ls h8 g8 T1
    by_cases hE0 : E = 0
    · rw [if_pos hE0] at hgd
      subst hE0
      have GD := Lib.hid hgd
      clear hgd
      go_upto_region 22 with (fail)
      have LD := Lib.hid (load_hd HD.out)
      have HS : Hid (Kept n (PE) (hdC 5 0 D S ⟨#[]⟩ 0 0 0 false (.slice aL G.length cL)) w8.drew) := Lib.hid ⟨HD.out, r1⟩
      clear r0 r1 r2 c0 c1 c2 c3 c4 c5 c9
      refine wp_region_held_drew (S := Kept n (PE) (hdC 5 0 D S ⟨#[]⟩ 0 0 0 false (.slice aL G.length cL))) mixedOrders HS.out (fun hHeld => ?_)
      clear hHeld
      refine wpAnyH_take (i := 0) (oi := ⟨some 77, _, _, _, _, _⟩) (v := .agg (hdC 5 0 D S ⟨#[]⟩ 0 0 0 false (.slice aL G.length cL))) rfl (by kernel_rfl) (by kernel_rfl) (by kernel_rfl) (fun _ _ _ h => h) (Or.inl ⟨by rfl, fun w' hSw => ?_⟩) HS.out ?_
      · exact load_hd0 hSw.1
      simp only [Act.put, List.setIfInBounds_toArray, List.set_cons_succ, List.set_cons_zero]
      refine wpAnyH_take (i := 1) (oi := ⟨some 78, _, _, _, _, _⟩) (v := .int .i64 (p4 : Int)) rfl (by kernel_rfl) (by kernel_rfl) (by kernel_rfl) (fun _ _ _ h => h) (Or.inl ⟨by rfl, fun w' hSw => ?_⟩) HS.out ?_
      · go_simp
      simp only [Act.put, List.setIfInBounds_toArray, List.set_cons_succ, List.set_cons_zero]
      refine wpAnyH_take (i := 2) (oi := ⟨some 79, _, _, _, _, _⟩) (v := .pointer (some ⟨n + 1, 0, none⟩)) rfl (by kernel_rfl) (by kernel_rfl) (by kernel_rfl) (fun _ _ _ h => h) (Or.inl ⟨by rfl, fun w' hSw => ?_⟩) HS.out ?_
      · go_simp
      simp only [Act.put, List.setIfInBounds_toArray, List.set_cons_succ, List.set_cons_zero]
      refine wpAnyH_take (i := 3) (oi := ⟨some 80, _, _, _, _, _⟩) (v := .pointer (some ⟨n + 1, 0, none⟩)) rfl (by kernel_rfl) (by kernel_rfl) (by kernel_rfl) (fun _ _ _ h => h) (Or.inl ⟨by rfl, fun w' hSw => ?_⟩) HS.out ?_
      · go_simp
      simp only [Act.put, List.setIfInBounds_toArray, List.set_cons_succ, List.set_cons_zero]
      refine wpAnyH_take (i := 4) (oi := ⟨some 81, _, _, _, _, _⟩) (v := .pointer (some ⟨n + 1, 1, none⟩)) rfl (by kernel_rfl) (by kernel_rfl) (by kernel_rfl) (fun _ _ _ h => h) (Or.inl ⟨by rfl, fun w' hSw => ?_⟩) HS.out ?_
      · go_simp
      simp only [Act.put, List.setIfInBounds_toArray, List.set_cons_succ, List.set_cons_zero]
      refine wpAnyH_take (i := 5) (oi := ⟨some 82, _, _, _, _, _⟩) (v := .int .i64 (PE : Int)) rfl (by kernel_rfl) (by kernel_rfl) (by kernel_rfl) (fun _ _ _ h => h) (Or.inl ⟨by rfl, fun w' hSw => ?_⟩) HS.out ?_
      · have h := hSw.2
        go_simp
      simp only [Act.put, List.setIfInBounds_toArray, List.set_cons_succ, List.set_cons_zero]
      refine wpAnyH_ready (rs := [6]) (by kernel_rfl) (by simp) ?_
      refine AllReadyH.cons (i := 6) rfl (fun K hK => ?_) AllReadyH.nil
      rw [if_pos (by rfl)]
      refine step_store_row 66 _ _ rfl n 66 (hdC 0 0 ⟨#[]⟩ ⟨#[]⟩ ⟨#[]⟩ 0 0 0 false (.slice none 0 0)) (hdC 5 0 D S ⟨#[]⟩ 0 0 0 false (.slice aL G.length cL)) rfl rfl RS.out rfl (by kernel_rfl) (hdC_one _ _ _ _ _ _ _ _ _) ?_
      intro w9 rs
      have RS9 := Lib.hid rs
      have HS9 : Hid (Kept n (PE) (hdC 5 0 D S ⟨#[]⟩ 0 0 0 false (.slice aL G.length cL)) w9) := Lib.hid ⟨rs.keep (by omega) HS.out.1, by rw [rs.chg.cell (p := ⟨n + 1, 1, none⟩) (by have := lt_row HD.out; show n + 1 < w8.heap.size; omega) (by show n + 1 ≠ n; omega)]; exact HS.out.2⟩
      clear rs
      refine hK.out _ _ HS9.out (fun _ => ?_)
      clear hK K HS
      have HS := HS9
      clear HS9
      simp only [Act.put, List.setIfInBounds_toArray, List.set_cons_succ, List.set_cons_zero]
      refine wpAnyH_take (i := 7) (oi := ⟨some 3, _, _, _, _, _⟩) (v := .int .i64 (p4 : Int)) rfl (by kernel_rfl) (by kernel_rfl) (by kernel_rfl) (fun _ _ _ h => h) (Or.inl ⟨by rfl, fun w' hSw => ?_⟩) HS.out ?_
      · go_simp
      simp only [Act.put, List.setIfInBounds_toArray, List.set_cons_succ, List.set_cons_zero]
      refine wpAnyH_take (i := 8) (oi := ⟨some 4, _, _, _, _, _⟩) (v := .int .i64 (PE : Int)) rfl (by kernel_rfl) (by kernel_rfl) (by kernel_rfl) (fun _ _ _ h => h) (Or.inl ⟨by rfl, fun w' hSw => ?_⟩) HS.out ?_
      · go_simp
      simp only [Act.put, List.setIfInBounds_toArray, List.set_cons_succ, List.set_cons_zero]
      refine wpAnyH_take (i := 9) (oi := ⟨some 5, _, _, _, _, _⟩) (v := .int .i64 0) rfl (by kernel_rfl) (by kernel_rfl) (by kernel_rfl) (fun _ _ _ h => h) (Or.inl ⟨by rfl, fun w' hSw => ?_⟩) HS.out ?_
      · go_simp
      simp only [Act.put, List.setIfInBounds_toArray, List.set_cons_succ, List.set_cons_zero]
      refine wpAnyH_done (by kernel_rfl) ?_ _
      go_wp2_with fail
      refine bodyPost_ret (results_hd rfl _ _ n 66 (hdC 5 0 D S ⟨#[]⟩ 0 0 0 false (.slice aL G.length cL)) (0, 0) _ rfl RS9.out.row Tryd.underlying66 ⟨_, rfl⟩ (by kernel_rfl)) rfl ?_
      rw [← GD.out]
      exact ⟨aL, cL, rfl, by rw [HNS.out]; exact INW.out, (I8.out.chg ((Chg.refl n w8).drew.trans RS9.out.chg) IN0.out), by rw [HNS.out]; exact BL.out.drew.trans (RS9.out.below n (by omega))⟩
    · rw [if_neg hE0] at hgd
      have GD := Lib.hid hgd
      clear hgd
      have HE0 := Lib.hid hE0
      go_upto_region 21 with (fail)
      have HS : Hid (w8.drew.cell? ⟨n + 1, 2, none⟩ = some (.int .i64 E)) := Lib.hid r2
      clear r0 r1 r2 c0 c1 c2 c3 c4 c5 c9
      refine wp_region_held_drew (S := fun w' => w'.cell? ⟨n + 1, 2, none⟩ = some (.int .i64 E)) mixedOrders HS.out (fun hHeld => ?_)
      clear hHeld
      refine wpAnyH_take (i := 0) (oi := ⟨some 72, _, _, _, _, _⟩) (v := .agg (hdC 0 0 ⟨#[]⟩ ⟨#[]⟩ ⟨#[]⟩ 0 0 0 false (.slice none 0 0))) rfl (by kernel_rfl) (by kernel_rfl) (by kernel_rfl) (fun _ _ _ h => h) (Or.inl ⟨by rfl, fun w' hSw => ?_⟩) HS.out ?_
      · have h := build_hd0 w'
        go_simp
        rfl
      simp only [Act.put, List.setIfInBounds_toArray, List.set_cons_succ, List.set_cons_zero]
      refine wpAnyH_take (i := 1) (oi := ⟨some 73, _, _, _, _, _⟩) (v := .pointer (some ⟨n + 1, 0, none⟩)) rfl (by kernel_rfl) (by kernel_rfl) (by kernel_rfl) (fun _ _ _ h => h) (Or.inl ⟨by rfl, fun w' hSw => ?_⟩) HS.out ?_
      · go_simp
      simp only [Act.put, List.setIfInBounds_toArray, List.set_cons_succ, List.set_cons_zero]
      refine wpAnyH_take (i := 2) (oi := ⟨some 74, _, _, _, _, _⟩) (v := .pointer (some ⟨n + 1, 0, none⟩)) rfl (by kernel_rfl) (by kernel_rfl) (by kernel_rfl) (fun _ _ _ h => h) (Or.inl ⟨by rfl, fun w' hSw => ?_⟩) HS.out ?_
      · go_simp
      simp only [Act.put, List.setIfInBounds_toArray, List.set_cons_succ, List.set_cons_zero]
      refine wpAnyH_take (i := 3) (oi := ⟨some 75, _, _, _, _, _⟩) (v := .pointer (some ⟨n + 1, 2, none⟩)) rfl (by kernel_rfl) (by kernel_rfl) (by kernel_rfl) (fun _ _ _ h => h) (Or.inl ⟨by rfl, fun w' hSw => ?_⟩) HS.out ?_
      · go_simp
      simp only [Act.put, List.setIfInBounds_toArray, List.set_cons_succ, List.set_cons_zero]
      refine wpAnyH_take (i := 4) (oi := ⟨some 76, _, _, _, _, _⟩) (v := .int .i64 E) rfl (by kernel_rfl) (by kernel_rfl) (by kernel_rfl) (fun _ _ _ h => h) (Or.inl ⟨by rfl, fun w' hSw => ?_⟩) HS.out ?_
      · go_simp
      simp only [Act.put, List.setIfInBounds_toArray, List.set_cons_succ, List.set_cons_zero]
      refine wpAnyH_ready (rs := [5]) (by kernel_rfl) (by simp) ?_
      refine AllReadyH.cons (i := 5) rfl (fun K hK => ?_) AllReadyH.nil
      rw [if_pos (by rfl)]
      refine step_store_row 66 _ _ rfl n 66 (hdC 0 0 ⟨#[]⟩ ⟨#[]⟩ ⟨#[]⟩ 0 0 0 false (.slice none 0 0)) (hdC 0 0 ⟨#[]⟩ ⟨#[]⟩ ⟨#[]⟩ 0 0 0 false (.slice none 0 0)) rfl rfl RS.out rfl (by kernel_rfl) (hdC_one _ _ _ _ _ _ _ _ _) ?_
      intro w9 rs
      have RS9 := Lib.hid rs
      have HS9 : Hid (w9.cell? ⟨n + 1, 2, none⟩ = some (.int .i64 E)) := Lib.hid (by rw [rs.chg.cell (p := ⟨n + 1, 2, none⟩) (by have := lt_row HD.out; show n + 1 < w8.heap.size; omega) (by show n + 1 ≠ n; omega)]; exact HS.out)
      clear rs
      refine hK.out _ _ HS9.out (fun _ => ?_)
      clear hK K HS
      have HS := HS9
      clear HS9
      simp only [Act.put, List.setIfInBounds_toArray, List.set_cons_succ, List.set_cons_zero]
      refine wpAnyH_take (i := 6) (oi := ⟨some 3, _, _, _, _, _⟩) (v := .int .i64 0) rfl (by kernel_rfl) (by kernel_rfl) (by kernel_rfl) (fun _ _ _ h => h) (Or.inl ⟨by rfl, fun w' hSw => ?_⟩) HS.out ?_
      · go_simp
      simp only [Act.put, List.setIfInBounds_toArray, List.set_cons_succ, List.set_cons_zero]
      refine wpAnyH_take (i := 7) (oi := ⟨some 4, _, _, _, _, _⟩) (v := .int .i64 0) rfl (by kernel_rfl) (by kernel_rfl) (by kernel_rfl) (fun _ _ _ h => h) (Or.inl ⟨by rfl, fun w' hSw => ?_⟩) HS.out ?_
      · go_simp
      simp only [Act.put, List.setIfInBounds_toArray, List.set_cons_succ, List.set_cons_zero]
      refine wpAnyH_take (i := 8) (oi := ⟨some 5, _, _, _, _, _⟩) (v := .int .i64 E) rfl (by kernel_rfl) (by kernel_rfl) (by kernel_rfl) (fun _ _ _ h => h) (Or.inl ⟨by rfl, fun w' hSw => ?_⟩) HS.out ?_
      · go_simp
      simp only [Act.put, List.setIfInBounds_toArray, List.set_cons_succ, List.set_cons_zero]
      refine wpAnyH_done (by kernel_rfl) ?_ _
      go_wp2_with fail
      refine bodyPost_ret (results_hd rfl _ _ n 66 (hdC 0 0 ⟨#[]⟩ ⟨#[]⟩ ⟨#[]⟩ 0 0 0 false (.slice none 0 0)) (0, 0) _ rfl RS9.out.row Tryd.underlying66 ⟨_, rfl⟩ (by kernel_rfl)) rfl ?_
      rw [← GD.out]
      exact ⟨none, 0, rfl, (fun y hy => by cases hy), ints_none _, by rw [HNS.out]; exact BL.out.drew.trans (RS9.out.below n (by omega))⟩
  have hVb : ((V : Int) == 0) = false := beq_eq_false_iff_ne.2 (by omega)
  have hVi : ¬ (V : Int) = 0 := by omega
  have ILN : ∀ w' : World, IntsIn w' (.slice none ([] : List Int).length 0) [] := ints_none
  have hg := HG.out
  unfold longKind at hg
  rw [if_neg hV0] at hg
  clear HG
  by_cases h3 : m = 3
  · subst h3
    rw [if_pos rfl] at hg
    generalize hT : strOf (fun i => f (p3 + i)) (txN len p3 (len - p3) 512 e3) = T at hg
    generalize hp4 : p3 + txN len p3 (len - p3) 512 e3 = p4 at hg
    generalize he4 : txE len p3 (len - p3) 512 e3 = e4 at hg
    have LF := Lib.hid (left_any LS3.out.rd)
    have TK := Lib.hid (fun (w' : World) (h' : Rd w' (n + 1) (some ⟨b, off, none⟩) len cap f p3 e3) => token_any h' (len - p3))
    rw [hT, hp4, he4] at TK
    have HG2 := Lib.hid hg
    clear hg hT hp4 he4
    go_upto_region 14 with (fail)
    clear c0 c1 c2 c3 c4 c5 c9
    go_wp2_with fail
    with_reducible refine LF.out.mono ?_
    rintro x wa ⟨rfl, ha, ga⟩
    have LSa := Lib.hid (LS3.out.step ha ga)
    have TKa := Lib.hid (TK.out wa ha)
    clear ha ga LF TK
    go_wp2_with fail
    with_reducible refine TKa.out.mono ?_
    rintro x wb ⟨rfl, hb, gb⟩
    have ls5 := LSa.out.step hb gb
    have fr := ls5.free 4
    have LS := Lib.hid (ls5.put 4 (.string T) rfl NB.out)
    obtain ⟨c0, c1, c2, c3, c4, c5, c9⟩ := ls5.cells
    have IN : Hid (∀ y, (none : Option Addr) = some y → y.block ≠ n + 1) := Lib.hid (fun y hy => by cases hy)
    have INW : Hid (∀ y, (none : Option Addr) = some y → n ≤ y.block) := Lib.hid (fun y hy => by cases hy)
    have IN0 : Hid (∀ y, (none : Option Addr) = some y → y.block ≠ n) := Lib.hid (fun y hy => by cases hy)
    clear hb gb ls5
    go_upto_region 18 with (fail)
    have IL : Hid (IntsIn (World.setCell wb ⟨n + 2, 4, none⟩ (.string T)) (.slice none ([] : List Int).length 0) []) := Lib.hid (ILN _)
    generalize World.setCell _ _ _ = w9 at *
    have T1 := Lib.hid (take_at LS.out.rd (0) 0 rfl)
    obtain ⟨r0, r1, r2⟩ := cells3 LS.out.rd.row
    obtain ⟨c0, c1, c2, c3, c4, c5, c9⟩ := LS.out.cells
    have hgd := HG2.out
    unfold longEnd at hgd
    generalize hE : tkE len p4 e4 (0) = E at T1 hgd
    generalize hN : p4 + tkN len p4 e4 (0) = PE at T1 hgd
    go_wp2_with fail
    with_reducible refine T1.out.mono ?_
    rintro x w8 ⟨a', c', rfl, _, _, _, h8, g8⟩
    have ls := LS.out.step h8 g8
    obtain ⟨r0, r1, r2⟩ := cells3 h8.row
    have RS := Lib.hid ls.rs
    have HD := Lib.hid ls.hd
    have BL := Lib.hid ls.bl
    have I8 := Lib.hid (IL.out.chg g8 IN.out)
    clear ls h8 g8 T1
    by_cases hE0 : E = 0
    · rw [if_pos hE0] at hgd
      subst hE0
      have GD := Lib.hid hgd
      clear hgd
      go_upto_region 22 with (fail)
      have LD := Lib.hid (load_hd HD.out)
      have HS : Hid (Kept n (PE) (hdC 3 (V : Int) D S T 0 0 0 false (.slice none 0 0)) w8.drew) := Lib.hid ⟨HD.out, r1⟩
      clear r0 r1 r2 c0 c1 c2 c3 c4 c5 c9
      refine wp_region_held_drew (S := Kept n (PE) (hdC 3 (V : Int) D S T 0 0 0 false (.slice none 0 0))) mixedOrders HS.out (fun hHeld => ?_)
      clear hHeld
      refine wpAnyH_take (i := 0) (oi := ⟨some 77, _, _, _, _, _⟩) (v := .agg (hdC 3 (V : Int) D S T 0 0 0 false (.slice none 0 0))) rfl (by kernel_rfl) (by kernel_rfl) (by kernel_rfl) (fun _ _ _ h => h) (Or.inl ⟨by rfl, fun w' hSw => ?_⟩) HS.out ?_
      · exact load_hd0 hSw.1
      simp only [Act.put, List.setIfInBounds_toArray, List.set_cons_succ, List.set_cons_zero]
      refine wpAnyH_take (i := 1) (oi := ⟨some 78, _, _, _, _, _⟩) (v := .int .i64 (p4 : Int)) rfl (by kernel_rfl) (by kernel_rfl) (by kernel_rfl) (fun _ _ _ h => h) (Or.inl ⟨by rfl, fun w' hSw => ?_⟩) HS.out ?_
      · go_simp
      simp only [Act.put, List.setIfInBounds_toArray, List.set_cons_succ, List.set_cons_zero]
      refine wpAnyH_take (i := 2) (oi := ⟨some 79, _, _, _, _, _⟩) (v := .pointer (some ⟨n + 1, 0, none⟩)) rfl (by kernel_rfl) (by kernel_rfl) (by kernel_rfl) (fun _ _ _ h => h) (Or.inl ⟨by rfl, fun w' hSw => ?_⟩) HS.out ?_
      · go_simp
      simp only [Act.put, List.setIfInBounds_toArray, List.set_cons_succ, List.set_cons_zero]
      refine wpAnyH_take (i := 3) (oi := ⟨some 80, _, _, _, _, _⟩) (v := .pointer (some ⟨n + 1, 0, none⟩)) rfl (by kernel_rfl) (by kernel_rfl) (by kernel_rfl) (fun _ _ _ h => h) (Or.inl ⟨by rfl, fun w' hSw => ?_⟩) HS.out ?_
      · go_simp
      simp only [Act.put, List.setIfInBounds_toArray, List.set_cons_succ, List.set_cons_zero]
      refine wpAnyH_take (i := 4) (oi := ⟨some 81, _, _, _, _, _⟩) (v := .pointer (some ⟨n + 1, 1, none⟩)) rfl (by kernel_rfl) (by kernel_rfl) (by kernel_rfl) (fun _ _ _ h => h) (Or.inl ⟨by rfl, fun w' hSw => ?_⟩) HS.out ?_
      · go_simp
      simp only [Act.put, List.setIfInBounds_toArray, List.set_cons_succ, List.set_cons_zero]
      refine wpAnyH_take (i := 5) (oi := ⟨some 82, _, _, _, _, _⟩) (v := .int .i64 (PE : Int)) rfl (by kernel_rfl) (by kernel_rfl) (by kernel_rfl) (fun _ _ _ h => h) (Or.inl ⟨by rfl, fun w' hSw => ?_⟩) HS.out ?_
      · have h := hSw.2
        go_simp
      simp only [Act.put, List.setIfInBounds_toArray, List.set_cons_succ, List.set_cons_zero]
      refine wpAnyH_ready (rs := [6]) (by kernel_rfl) (by simp) ?_
      refine AllReadyH.cons (i := 6) rfl (fun K hK => ?_) AllReadyH.nil
      rw [if_pos (by rfl)]
      refine step_store_row 66 _ _ rfl n 66 (hdC 0 0 ⟨#[]⟩ ⟨#[]⟩ ⟨#[]⟩ 0 0 0 false (.slice none 0 0)) (hdC 3 (V : Int) D S T 0 0 0 false (.slice none 0 0)) rfl rfl RS.out rfl (by kernel_rfl) (hdC_one _ _ _ _ _ _ _ _ _) ?_
      intro w9 rs
      have RS9 := Lib.hid rs
      have HS9 : Hid (Kept n (PE) (hdC 3 (V : Int) D S T 0 0 0 false (.slice none 0 0)) w9) := Lib.hid ⟨rs.keep (by omega) HS.out.1, by rw [rs.chg.cell (p := ⟨n + 1, 1, none⟩) (by have := lt_row HD.out; show n + 1 < w8.heap.size; omega) (by show n + 1 ≠ n; omega)]; exact HS.out.2⟩
      clear rs
      refine hK.out _ _ HS9.out (fun _ => ?_)
      clear hK K HS
      have HS := HS9
      clear HS9
      simp only [Act.put, List.setIfInBounds_toArray, List.set_cons_succ, List.set_cons_zero]
      refine wpAnyH_take (i := 7) (oi := ⟨some 3, _, _, _, _, _⟩) (v := .int .i64 (p4 : Int)) rfl (by kernel_rfl) (by kernel_rfl) (by kernel_rfl) (fun _ _ _ h => h) (Or.inl ⟨by rfl, fun w' hSw => ?_⟩) HS.out ?_
      · go_simp
      simp only [Act.put, List.setIfInBounds_toArray, List.set_cons_succ, List.set_cons_zero]
      refine wpAnyH_take (i := 8) (oi := ⟨some 4, _, _, _, _, _⟩) (v := .int .i64 (PE : Int)) rfl (by kernel_rfl) (by kernel_rfl) (by kernel_rfl) (fun _ _ _ h => h) (Or.inl ⟨by rfl, fun w' hSw => ?_⟩) HS.out ?_
      · go_simp
      simp only [Act.put, List.setIfInBounds_toArray, List.set_cons_succ, List.set_cons_zero]
      refine wpAnyH_take (i := 9) (oi := ⟨some 5, _, _, _, _, _⟩) (v := .int .i64 0) rfl (by kernel_rfl) (by kernel_rfl) (by kernel_rfl) (fun _ _ _ h => h) (Or.inl ⟨by rfl, fun w' hSw => ?_⟩) HS.out ?_
      · go_simp
      simp only [Act.put, List.setIfInBounds_toArray, List.set_cons_succ, List.set_cons_zero]
      refine wpAnyH_done (by kernel_rfl) ?_ _
      go_wp2_with fail
      refine bodyPost_ret (results_hd rfl _ _ n 66 (hdC 3 (V : Int) D S T 0 0 0 false (.slice none 0 0)) (0, 0) _ rfl RS9.out.row Tryd.underlying66 ⟨_, rfl⟩ (by kernel_rfl)) rfl ?_
      rw [← GD.out]
      exact ⟨none, 0, rfl, by rw [HNS.out]; exact INW.out, (I8.out.chg ((Chg.refl n w8).drew.trans RS9.out.chg) IN0.out), by rw [HNS.out]; exact BL.out.drew.trans (RS9.out.below n (by omega))⟩
    · rw [if_neg hE0] at hgd
      have GD := Lib.hid hgd
      clear hgd
      have HE0 := Lib.hid hE0
      go_upto_region 21 with (fail)
      have HS : Hid (w8.drew.cell? ⟨n + 1, 2, none⟩ = some (.int .i64 E)) := Lib.hid r2
      clear r0 r1 r2 c0 c1 c2 c3 c4 c5 c9
      refine wp_region_held_drew (S := fun w' => w'.cell? ⟨n + 1, 2, none⟩ = some (.int .i64 E)) mixedOrders HS.out (fun hHeld => ?_)
      clear hHeld
      refine wpAnyH_take (i := 0) (oi := ⟨some 72, _, _, _, _, _⟩) (v := .agg (hdC 0 0 ⟨#[]⟩ ⟨#[]⟩ ⟨#[]⟩ 0 0 0 false (.slice none 0 0))) rfl (by kernel_rfl) (by kernel_rfl) (by kernel_rfl) (fun _ _ _ h => h) (Or.inl ⟨by rfl, fun w' hSw => ?_⟩) HS.out ?_
      · have h := build_hd0 w'
        go_simp
        rfl
      simp only [Act.put, List.setIfInBounds_toArray, List.set_cons_succ, List.set_cons_zero]
      refine wpAnyH_take (i := 1) (oi := ⟨some 73, _, _, _, _, _⟩) (v := .pointer (some ⟨n + 1, 0, none⟩)) rfl (by kernel_rfl) (by kernel_rfl) (by kernel_rfl) (fun _ _ _ h => h) (Or.inl ⟨by rfl, fun w' hSw => ?_⟩) HS.out ?_
      · go_simp
      simp only [Act.put, List.setIfInBounds_toArray, List.set_cons_succ, List.set_cons_zero]
      refine wpAnyH_take (i := 2) (oi := ⟨some 74, _, _, _, _, _⟩) (v := .pointer (some ⟨n + 1, 0, none⟩)) rfl (by kernel_rfl) (by kernel_rfl) (by kernel_rfl) (fun _ _ _ h => h) (Or.inl ⟨by rfl, fun w' hSw => ?_⟩) HS.out ?_
      · go_simp
      simp only [Act.put, List.setIfInBounds_toArray, List.set_cons_succ, List.set_cons_zero]
      refine wpAnyH_take (i := 3) (oi := ⟨some 75, _, _, _, _, _⟩) (v := .pointer (some ⟨n + 1, 2, none⟩)) rfl (by kernel_rfl) (by kernel_rfl) (by kernel_rfl) (fun _ _ _ h => h) (Or.inl ⟨by rfl, fun w' hSw => ?_⟩) HS.out ?_
      · go_simp
      simp only [Act.put, List.setIfInBounds_toArray, List.set_cons_succ, List.set_cons_zero]
      refine wpAnyH_take (i := 4) (oi := ⟨some 76, _, _, _, _, _⟩) (v := .int .i64 E) rfl (by kernel_rfl) (by kernel_rfl) (by kernel_rfl) (fun _ _ _ h => h) (Or.inl ⟨by rfl, fun w' hSw => ?_⟩) HS.out ?_
      · go_simp
      simp only [Act.put, List.setIfInBounds_toArray, List.set_cons_succ, List.set_cons_zero]
      refine wpAnyH_ready (rs := [5]) (by kernel_rfl) (by simp) ?_
      refine AllReadyH.cons (i := 5) rfl (fun K hK => ?_) AllReadyH.nil
      rw [if_pos (by rfl)]
      refine step_store_row 66 _ _ rfl n 66 (hdC 0 0 ⟨#[]⟩ ⟨#[]⟩ ⟨#[]⟩ 0 0 0 false (.slice none 0 0)) (hdC 0 0 ⟨#[]⟩ ⟨#[]⟩ ⟨#[]⟩ 0 0 0 false (.slice none 0 0)) rfl rfl RS.out rfl (by kernel_rfl) (hdC_one _ _ _ _ _ _ _ _ _) ?_
      intro w9 rs
      have RS9 := Lib.hid rs
      have HS9 : Hid (w9.cell? ⟨n + 1, 2, none⟩ = some (.int .i64 E)) := Lib.hid (by rw [rs.chg.cell (p := ⟨n + 1, 2, none⟩) (by have := lt_row HD.out; show n + 1 < w8.heap.size; omega) (by show n + 1 ≠ n; omega)]; exact HS.out)
      clear rs
      refine hK.out _ _ HS9.out (fun _ => ?_)
      clear hK K HS
      have HS := HS9
      clear HS9
      simp only [Act.put, List.setIfInBounds_toArray, List.set_cons_succ, List.set_cons_zero]
      refine wpAnyH_take (i := 6) (oi := ⟨some 3, _, _, _, _, _⟩) (v := .int .i64 0) rfl (by kernel_rfl) (by kernel_rfl) (by kernel_rfl) (fun _ _ _ h => h) (Or.inl ⟨by rfl, fun w' hSw => ?_⟩) HS.out ?_
      · go_simp
      simp only [Act.put, List.setIfInBounds_toArray, List.set_cons_succ, List.set_cons_zero]
      refine wpAnyH_take (i := 7) (oi := ⟨some 4, _, _, _, _, _⟩) (v := .int .i64 0) rfl (by kernel_rfl) (by kernel_rfl) (by kernel_rfl) (fun _ _ _ h => h) (Or.inl ⟨by rfl, fun w' hSw => ?_⟩) HS.out ?_
      · go_simp
      simp only [Act.put, List.setIfInBounds_toArray, List.set_cons_succ, List.set_cons_zero]
      refine wpAnyH_take (i := 8) (oi := ⟨some 5, _, _, _, _, _⟩) (v := .int .i64 E) rfl (by kernel_rfl) (by kernel_rfl) (by kernel_rfl) (fun _ _ _ h => h) (Or.inl ⟨by rfl, fun w' hSw => ?_⟩) HS.out ?_
      · go_simp
      simp only [Act.put, List.setIfInBounds_toArray, List.set_cons_succ, List.set_cons_zero]
      refine wpAnyH_done (by kernel_rfl) ?_ _
      go_wp2_with fail
      refine bodyPost_ret (results_hd rfl _ _ n 66 (hdC 0 0 ⟨#[]⟩ ⟨#[]⟩ ⟨#[]⟩ 0 0 0 false (.slice none 0 0)) (0, 0) _ rfl RS9.out.row Tryd.underlying66 ⟨_, rfl⟩ (by kernel_rfl)) rfl ?_
      rw [← GD.out]
      exact ⟨none, 0, rfl, (fun y hy => by cases hy), ints_none _, by rw [HNS.out]; exact BL.out.drew.trans (RS9.out.below n (by omega))⟩
  rw [if_neg h3] at hg
  have hm3 : ((m : Int) == 3) = false := beq_eq_false_iff_ne.2 (by omega)
  have hm3i : ¬ (m : Int) = 3 := by omega
  by_cases h0 : m = 0
  · subst h0
    rw [if_pos rfl] at hg
    generalize hc1 : ctV len f p3 512 e3 = nT at hg
    generalize hc2 : ctP len f p3 e3 = p4 at hg
    generalize hc3 : ctE len f p3 512 e3 = e4 at hg
    generalize hT : strOf (fun i => f (p4 + i)) (txN len p4 nT 512 e4) = T at hg
    generalize hp5 : p4 + txN len p4 nT 512 e4 = p5 at hg
    generalize he5 : txE len p4 nT 512 e4 = e5 at hg
    generalize hl6 : ctV len f p5 16383 e5 = l6 at hg
    generalize hp6 : ctP len f p5 e5 = p6 at hg
    generalize he6 : ctE len f p5 16383 e5 = e6 at hg
    have CT := Lib.hid (show Calls Tryd.prog 81 #[.pointer (some ⟨n + 1, 0, none⟩), .int .i64 512] w6 (RdPost (n + 1) (some ⟨b, off, none⟩) len cap f w6 (.int .i64 (nT : Int)) p4 e4) from by
      rw [← hc1, ← hc2, ← hc3]; exact counted_any LS3.out.rd 512)
    have TK := Lib.hid (fun (w' : World) (h' : Rd w' (n + 1) (some ⟨b, off, none⟩) len cap f p4 e4) => token_any h' nT)
    rw [hT, hp5, he5] at TK
    have CU := Lib.hid (fun (w' : World) (h' : Rd w' (n + 1) (some ⟨b, off, none⟩) len cap f p5 e5) => (show Calls Tryd.prog 81 #[.pointer (some ⟨n + 1, 0, none⟩), .int .i64 16383] w' (RdPost (n + 1) (some ⟨b, off, none⟩) len cap f w' (.int .i64 (l6 : Int)) p6 e6) from by
      rw [← hl6, ← hp6, ← he6]; exact counted_any h' 16383))
    have HG2 := Lib.hid hg
    clear hg hT hc1 hc2 hc3 hp5 he5 hl6 hp6 he6 hm3 hm3i h3
    go_upto_region 16 with (fail)
    clear c0 c1 c2 c3 c4 c5 c9
    go_wp2_with fail
    with_reducible refine CT.out.mono ?_
    rintro x wa ⟨rfl, ha, ga⟩
    have LSa := Lib.hid (LS3.out.step ha ga)
    have TKa := Lib.hid (TK.out wa ha)
    clear ha ga CT TK
    go_wp2_with fail
    with_reducible refine TKa.out.mono ?_
    rintro x wb ⟨rfl, hb, gb⟩
    have ls5 := LSa.out.step hb gb
    have fr := ls5.free 4
    have lsc := ls5.put 4 (.string T) rfl NB.out
    have LSc := Lib.hid lsc
    have CUc := Lib.hid (CU.out _ lsc.rd)
    obtain ⟨c0, c1, c2, c3, c4, c5, c9⟩ := ls5.cells
    clear hb gb ls5 lsc CU
    go_upto_region 17 with (fail)
    clear fr c0 c1 c2 c3 c4 c5 c9
    generalize World.setCell _ _ _ = wc at *
    go_wp2_with fail
    with_reducible refine CUc.out.mono ?_
    rintro x wd ⟨rfl, hd, gd⟩
    have ls5 := LSc.out.step hd gd
    have fr := ls5.free 5
    have LS := Lib.hid (ls5.put 5 (.int .i64 (l6 : Int)) rfl NB.out)
    obtain ⟨c0, c1, c2, c3, c4, c5, c9⟩ := ls5.cells
    have IN : Hid (∀ y, (none : Option Addr) = some y → y.block ≠ n + 1) := Lib.hid (fun y hy => by cases hy)
    have INW : Hid (∀ y, (none : Option Addr) = some y → n ≤ y.block) := Lib.hid (fun y hy => by cases hy)
    have IN0 : Hid (∀ y, (none : Option Addr) = some y → y.block ≠ n) := Lib.hid (fun y hy => by cases hy)
    clear hd gd ls5 CUc
    go_upto_region 18 with (fail)
    have IL : Hid (IntsIn (World.setCell wd ⟨n + 2, 5, none⟩ (.int .i64 (l6 : Int))) (.slice none ([] : List Int).length 0) []) := Lib.hid (ILN _)
    generalize World.setCell _ _ _ = w9 at *
    have T1 := Lib.hid (take_at LS.out.rd (l6) (l6 : Int) rfl)
    obtain ⟨r0, r1, r2⟩ := cells3 LS.out.rd.row
    obtain ⟨c0, c1, c2, c3, c4, c5, c9⟩ := LS.out.cells
    have hgd := HG2.out
    unfold longEnd at hgd
    generalize hE : tkE len p6 e6 (l6) = E at T1 hgd
    generalize hN : p6 + tkN len p6 e6 (l6) = PE at T1 hgd
    go_wp2_with fail
    with_reducible refine T1.out.mono ?_
    rintro x w8 ⟨a', c', rfl, _, _, _, h8, g8⟩
    have ls := LS.out.step h8 g8
    obtain ⟨r0, r1, r2⟩ := cells3 h8.row
    have RS := Lib.hid ls.rs
    have HD := Lib.hid ls.hd
    have BL := Lib.hid ls.bl
    have I8 := Lib.hid (IL.out.chg g8 IN.out)
    clear ls h8 g8 T1
    by_cases hE0 : E = 0
    · rw [if_pos hE0] at hgd
      subst hE0
      have GD := Lib.hid hgd
      clear hgd
      go_upto_region 22 with (fail)
      have LD := Lib.hid (load_hd HD.out)
      have HS : Hid (Kept n (PE) (hdC 0 (V : Int) D S T (l6 : Int) 0 0 false (.slice none 0 0)) w8.drew) := Lib.hid ⟨HD.out, r1⟩
      clear r0 r1 r2 c0 c1 c2 c3 c4 c5 c9
      refine wp_region_held_drew (S := Kept n (PE) (hdC 0 (V : Int) D S T (l6 : Int) 0 0 false (.slice none 0 0))) mixedOrders HS.out (fun hHeld => ?_)
      clear hHeld
      refine wpAnyH_take (i := 0) (oi := ⟨some 77, _, _, _, _, _⟩) (v := .agg (hdC 0 (V : Int) D S T (l6 : Int) 0 0 false (.slice none 0 0))) rfl (by kernel_rfl) (by kernel_rfl) (by kernel_rfl) (fun _ _ _ h => h) (Or.inl ⟨by rfl, fun w' hSw => ?_⟩) HS.out ?_
      · exact load_hd0 hSw.1
      simp only [Act.put, List.setIfInBounds_toArray, List.set_cons_succ, List.set_cons_zero]
      refine wpAnyH_take (i := 1) (oi := ⟨some 78, _, _, _, _, _⟩) (v := .int .i64 (p6 : Int)) rfl (by kernel_rfl) (by kernel_rfl) (by kernel_rfl) (fun _ _ _ h => h) (Or.inl ⟨by rfl, fun w' hSw => ?_⟩) HS.out ?_
      · go_simp
      simp only [Act.put, List.setIfInBounds_toArray, List.set_cons_succ, List.set_cons_zero]
      refine wpAnyH_take (i := 2) (oi := ⟨some 79, _, _, _, _, _⟩) (v := .pointer (some ⟨n + 1, 0, none⟩)) rfl (by kernel_rfl) (by kernel_rfl) (by kernel_rfl) (fun _ _ _ h => h) (Or.inl ⟨by rfl, fun w' hSw => ?_⟩) HS.out ?_
      · go_simp
      simp only [Act.put, List.setIfInBounds_toArray, List.set_cons_succ, List.set_cons_zero]
      refine wpAnyH_take (i := 3) (oi := ⟨some 80, _, _, _, _, _⟩) (v := .pointer (some ⟨n + 1, 0, none⟩)) rfl (by kernel_rfl) (by kernel_rfl) (by kernel_rfl) (fun _ _ _ h => h) (Or.inl ⟨by rfl, fun w' hSw => ?_⟩) HS.out ?_
      · go_simp
      simp only [Act.put, List.setIfInBounds_toArray, List.set_cons_succ, List.set_cons_zero]
      refine wpAnyH_take (i := 4) (oi := ⟨some 81, _, _, _, _, _⟩) (v := .pointer (some ⟨n + 1, 1, none⟩)) rfl (by kernel_rfl) (by kernel_rfl) (by kernel_rfl) (fun _ _ _ h => h) (Or.inl ⟨by rfl, fun w' hSw => ?_⟩) HS.out ?_
      · go_simp
      simp only [Act.put, List.setIfInBounds_toArray, List.set_cons_succ, List.set_cons_zero]
      refine wpAnyH_take (i := 5) (oi := ⟨some 82, _, _, _, _, _⟩) (v := .int .i64 (PE : Int)) rfl (by kernel_rfl) (by kernel_rfl) (by kernel_rfl) (fun _ _ _ h => h) (Or.inl ⟨by rfl, fun w' hSw => ?_⟩) HS.out ?_
      · have h := hSw.2
        go_simp
      simp only [Act.put, List.setIfInBounds_toArray, List.set_cons_succ, List.set_cons_zero]
      refine wpAnyH_ready (rs := [6]) (by kernel_rfl) (by simp) ?_
      refine AllReadyH.cons (i := 6) rfl (fun K hK => ?_) AllReadyH.nil
      rw [if_pos (by rfl)]
      refine step_store_row 66 _ _ rfl n 66 (hdC 0 0 ⟨#[]⟩ ⟨#[]⟩ ⟨#[]⟩ 0 0 0 false (.slice none 0 0)) (hdC 0 (V : Int) D S T (l6 : Int) 0 0 false (.slice none 0 0)) rfl rfl RS.out rfl (by kernel_rfl) (hdC_one _ _ _ _ _ _ _ _ _) ?_
      intro w9 rs
      have RS9 := Lib.hid rs
      have HS9 : Hid (Kept n (PE) (hdC 0 (V : Int) D S T (l6 : Int) 0 0 false (.slice none 0 0)) w9) := Lib.hid ⟨rs.keep (by omega) HS.out.1, by rw [rs.chg.cell (p := ⟨n + 1, 1, none⟩) (by have := lt_row HD.out; show n + 1 < w8.heap.size; omega) (by show n + 1 ≠ n; omega)]; exact HS.out.2⟩
      clear rs
      refine hK.out _ _ HS9.out (fun _ => ?_)
      clear hK K HS
      have HS := HS9
      clear HS9
      simp only [Act.put, List.setIfInBounds_toArray, List.set_cons_succ, List.set_cons_zero]
      refine wpAnyH_take (i := 7) (oi := ⟨some 3, _, _, _, _, _⟩) (v := .int .i64 (p6 : Int)) rfl (by kernel_rfl) (by kernel_rfl) (by kernel_rfl) (fun _ _ _ h => h) (Or.inl ⟨by rfl, fun w' hSw => ?_⟩) HS.out ?_
      · go_simp
      simp only [Act.put, List.setIfInBounds_toArray, List.set_cons_succ, List.set_cons_zero]
      refine wpAnyH_take (i := 8) (oi := ⟨some 4, _, _, _, _, _⟩) (v := .int .i64 (PE : Int)) rfl (by kernel_rfl) (by kernel_rfl) (by kernel_rfl) (fun _ _ _ h => h) (Or.inl ⟨by rfl, fun w' hSw => ?_⟩) HS.out ?_
      · go_simp
      simp only [Act.put, List.setIfInBounds_toArray, List.set_cons_succ, List.set_cons_zero]
      refine wpAnyH_take (i := 9) (oi := ⟨some 5, _, _, _, _, _⟩) (v := .int .i64 0) rfl (by kernel_rfl) (by kernel_rfl) (by kernel_rfl) (fun _ _ _ h => h) (Or.inl ⟨by rfl, fun w' hSw => ?_⟩) HS.out ?_
      · go_simp
      simp only [Act.put, List.setIfInBounds_toArray, List.set_cons_succ, List.set_cons_zero]
      refine wpAnyH_done (by kernel_rfl) ?_ _
      go_wp2_with fail
      refine bodyPost_ret (results_hd rfl _ _ n 66 (hdC 0 (V : Int) D S T (l6 : Int) 0 0 false (.slice none 0 0)) (0, 0) _ rfl RS9.out.row Tryd.underlying66 ⟨_, rfl⟩ (by kernel_rfl)) rfl ?_
      rw [← GD.out]
      exact ⟨none, 0, rfl, by rw [HNS.out]; exact INW.out, (I8.out.chg ((Chg.refl n w8).drew.trans RS9.out.chg) IN0.out), by rw [HNS.out]; exact BL.out.drew.trans (RS9.out.below n (by omega))⟩
    · rw [if_neg hE0] at hgd
      have GD := Lib.hid hgd
      clear hgd
      have HE0 := Lib.hid hE0
      go_upto_region 21 with (fail)
      have HS : Hid (w8.drew.cell? ⟨n + 1, 2, none⟩ = some (.int .i64 E)) := Lib.hid r2
      clear r0 r1 r2 c0 c1 c2 c3 c4 c5 c9
      refine wp_region_held_drew (S := fun w' => w'.cell? ⟨n + 1, 2, none⟩ = some (.int .i64 E)) mixedOrders HS.out (fun hHeld => ?_)
      clear hHeld
      refine wpAnyH_take (i := 0) (oi := ⟨some 72, _, _, _, _, _⟩) (v := .agg (hdC 0 0 ⟨#[]⟩ ⟨#[]⟩ ⟨#[]⟩ 0 0 0 false (.slice none 0 0))) rfl (by kernel_rfl) (by kernel_rfl) (by kernel_rfl) (fun _ _ _ h => h) (Or.inl ⟨by rfl, fun w' hSw => ?_⟩) HS.out ?_
      · have h := build_hd0 w'
        go_simp
        rfl
      simp only [Act.put, List.setIfInBounds_toArray, List.set_cons_succ, List.set_cons_zero]
      refine wpAnyH_take (i := 1) (oi := ⟨some 73, _, _, _, _, _⟩) (v := .pointer (some ⟨n + 1, 0, none⟩)) rfl (by kernel_rfl) (by kernel_rfl) (by kernel_rfl) (fun _ _ _ h => h) (Or.inl ⟨by rfl, fun w' hSw => ?_⟩) HS.out ?_
      · go_simp
      simp only [Act.put, List.setIfInBounds_toArray, List.set_cons_succ, List.set_cons_zero]
      refine wpAnyH_take (i := 2) (oi := ⟨some 74, _, _, _, _, _⟩) (v := .pointer (some ⟨n + 1, 0, none⟩)) rfl (by kernel_rfl) (by kernel_rfl) (by kernel_rfl) (fun _ _ _ h => h) (Or.inl ⟨by rfl, fun w' hSw => ?_⟩) HS.out ?_
      · go_simp
      simp only [Act.put, List.setIfInBounds_toArray, List.set_cons_succ, List.set_cons_zero]
      refine wpAnyH_take (i := 3) (oi := ⟨some 75, _, _, _, _, _⟩) (v := .pointer (some ⟨n + 1, 2, none⟩)) rfl (by kernel_rfl) (by kernel_rfl) (by kernel_rfl) (fun _ _ _ h => h) (Or.inl ⟨by rfl, fun w' hSw => ?_⟩) HS.out ?_
      · go_simp
      simp only [Act.put, List.setIfInBounds_toArray, List.set_cons_succ, List.set_cons_zero]
      refine wpAnyH_take (i := 4) (oi := ⟨some 76, _, _, _, _, _⟩) (v := .int .i64 E) rfl (by kernel_rfl) (by kernel_rfl) (by kernel_rfl) (fun _ _ _ h => h) (Or.inl ⟨by rfl, fun w' hSw => ?_⟩) HS.out ?_
      · go_simp
      simp only [Act.put, List.setIfInBounds_toArray, List.set_cons_succ, List.set_cons_zero]
      refine wpAnyH_ready (rs := [5]) (by kernel_rfl) (by simp) ?_
      refine AllReadyH.cons (i := 5) rfl (fun K hK => ?_) AllReadyH.nil
      rw [if_pos (by rfl)]
      refine step_store_row 66 _ _ rfl n 66 (hdC 0 0 ⟨#[]⟩ ⟨#[]⟩ ⟨#[]⟩ 0 0 0 false (.slice none 0 0)) (hdC 0 0 ⟨#[]⟩ ⟨#[]⟩ ⟨#[]⟩ 0 0 0 false (.slice none 0 0)) rfl rfl RS.out rfl (by kernel_rfl) (hdC_one _ _ _ _ _ _ _ _ _) ?_
      intro w9 rs
      have RS9 := Lib.hid rs
      have HS9 : Hid (w9.cell? ⟨n + 1, 2, none⟩ = some (.int .i64 E)) := Lib.hid (by rw [rs.chg.cell (p := ⟨n + 1, 2, none⟩) (by have := lt_row HD.out; show n + 1 < w8.heap.size; omega) (by show n + 1 ≠ n; omega)]; exact HS.out)
      clear rs
      refine hK.out _ _ HS9.out (fun _ => ?_)
      clear hK K HS
      have HS := HS9
      clear HS9
      simp only [Act.put, List.setIfInBounds_toArray, List.set_cons_succ, List.set_cons_zero]
      refine wpAnyH_take (i := 6) (oi := ⟨some 3, _, _, _, _, _⟩) (v := .int .i64 0) rfl (by kernel_rfl) (by kernel_rfl) (by kernel_rfl) (fun _ _ _ h => h) (Or.inl ⟨by rfl, fun w' hSw => ?_⟩) HS.out ?_
      · go_simp
      simp only [Act.put, List.setIfInBounds_toArray, List.set_cons_succ, List.set_cons_zero]
      refine wpAnyH_take (i := 7) (oi := ⟨some 4, _, _, _, _, _⟩) (v := .int .i64 0) rfl (by kernel_rfl) (by kernel_rfl) (by kernel_rfl) (fun _ _ _ h => h) (Or.inl ⟨by rfl, fun w' hSw => ?_⟩) HS.out ?_
      · go_simp
      simp only [Act.put, List.setIfInBounds_toArray, List.set_cons_succ, List.set_cons_zero]
      refine wpAnyH_take (i := 8) (oi := ⟨some 5, _, _, _, _, _⟩) (v := .int .i64 E) rfl (by kernel_rfl) (by kernel_rfl) (by kernel_rfl) (fun _ _ _ h => h) (Or.inl ⟨by rfl, fun w' hSw => ?_⟩) HS.out ?_
      · go_simp
      simp only [Act.put, List.setIfInBounds_toArray, List.set_cons_succ, List.set_cons_zero]
      refine wpAnyH_done (by kernel_rfl) ?_ _
      go_wp2_with fail
      refine bodyPost_ret (results_hd rfl _ _ n 66 (hdC 0 0 ⟨#[]⟩ ⟨#[]⟩ ⟨#[]⟩ 0 0 0 false (.slice none 0 0)) (0, 0) _ rfl RS9.out.row Tryd.underlying66 ⟨_, rfl⟩ (by kernel_rfl)) rfl ?_
      rw [← GD.out]
      exact ⟨none, 0, rfl, (fun y hy => by cases hy), ints_none _, by rw [HNS.out]; exact BL.out.drew.trans (RS9.out.below n (by omega))⟩
  · rw [if_neg h0] at hg
    have hm0 : ((m : Int) == 0) = false := beq_eq_false_iff_ne.2 (by omega)
    have hm0i : ¬ (m : Int) = 0 := by omega
    have hm5 : ((m : Int) == 5) = false := beq_eq_false_iff_ne.2 (by omega)
    have hm5i : ¬ (m : Int) = 5 := by omega
    generalize hl6 : ctV len f p3 16383 e3 = l6 at hg
    generalize hp6 : ctP len f p3 e3 = p6 at hg
    generalize he6 : ctE len f p3 16383 e3 = e6 at hg
    have CU := Lib.hid (show Calls Tryd.prog 81 #[.pointer (some ⟨n + 1, 0, none⟩), .int .i64 16383] w6 (RdPost (n + 1) (some ⟨b, off, none⟩) len cap f w6 (.int .i64 (l6 : Int)) p6 e6) from by
      rw [← hl6, ← hp6, ← he6]; exact counted_any LS3.out.rd 16383)
    have HG2 := Lib.hid hg
    clear hg hl6 hp6 he6
    go_upto_region 10 with (fail)
    clear c0 c1 c2 c3 c4 c5 c9
    go_wp2_with fail
    with_reducible refine CU.out.mono ?_
    rintro x wd ⟨rfl, hd, gd⟩
    have ls5 := LS3.out.step hd gd
    have fr := ls5.free 5
    have LS := Lib.hid (ls5.put 5 (.int .i64 (l6 : Int)) rfl NB.out)
    obtain ⟨c0, c1, c2, c3, c4, c5, c9⟩ := ls5.cells
    have IN : Hid (∀ y, (none : Option Addr) = some y → y.block ≠ n + 1) := Lib.hid (fun y hy => by cases hy)
    have INW : Hid (∀ y, (none : Option Addr) = some y → n ≤ y.block) := Lib.hid (fun y hy => by cases hy)
    have IN0 : Hid (∀ y, (none : Option Addr) = some y → y.block ≠ n) := Lib.hid (fun y hy => by cases hy)
    clear hd gd ls5 CU hm0 hm0i hm5 hm5i hm3 hm3i
    go_upto_region 18 with (fail)
    have IL : Hid (IntsIn (World.setCell wd ⟨n + 2, 5, none⟩ (.int .i64 (l6 : Int))) (.slice none ([] : List Int).length 0) []) := Lib.hid (ILN _)
    generalize World.setCell _ _ _ = w9 at *
    have T1 := Lib.hid (take_at LS.out.rd (l6) (l6 : Int) rfl)
    obtain ⟨r0, r1, r2⟩ := cells3 LS.out.rd.row
    obtain ⟨c0, c1, c2, c3, c4, c5, c9⟩ := LS.out.cells
    have hgd := HG2.out
    unfold longEnd at hgd
    generalize hE : tkE len p6 e6 (l6) = E at T1 hgd
    generalize hN : p6 + tkN len p6 e6 (l6) = PE at T1 hgd
    go_wp2_with fail
    with_reducible refine T1.out.mono ?_
    rintro x w8 ⟨a', c', rfl, _, _, _, h8, g8⟩
    have ls := LS.out.step h8 g8
    obtain ⟨r0, r1, r2⟩ := cells3 h8.row
    have RS := Lib.hid ls.rs
    have HD := Lib.hid ls.hd
    have BL := Lib.hid ls.bl
    have I8 := Lib.hid (IL.out.chg g8 IN.out)
    clear ls h8 g8 T1
    by_cases hE0 : E = 0
    · rw [if_pos hE0] at hgd
      subst hE0
      have GD := Lib.hid hgd
      clear hgd
      go_upto_region 22 with (fail)
      have LD := Lib.hid (load_hd HD.out)
      have HS : Hid (Kept n (PE) (hdC (m : Int) (V : Int) D S ⟨#[]⟩ (l6 : Int) 0 0 false (.slice none 0 0)) w8.drew) := Lib.hid ⟨HD.out, r1⟩
      clear r0 r1 r2 c0 c1 c2 c3 c4 c5 c9
      refine wp_region_held_drew (S := Kept n (PE) (hdC (m : Int) (V : Int) D S ⟨#[]⟩ (l6 : Int) 0 0 false (.slice none 0 0))) mixedOrders HS.out (fun hHeld => ?_)
      clear hHeld
      refine wpAnyH_take (i := 0) (oi := ⟨some 77, _, _, _, _, _⟩) (v := .agg (hdC (m : Int) (V : Int) D S ⟨#[]⟩ (l6 : Int) 0 0 false (.slice none 0 0))) rfl (by kernel_rfl) (by kernel_rfl) (by kernel_rfl) (fun _ _ _ h => h) (Or.inl ⟨by rfl, fun w' hSw => ?_⟩) HS.out ?_
      · exact load_hd0 hSw.1
      simp only [Act.put, List.setIfInBounds_toArray, List.set_cons_succ, List.set_cons_zero]
      refine wpAnyH_take (i := 1) (oi := ⟨some 78, _, _, _, _, _⟩) (v := .int .i64 (p6 : Int)) rfl (by kernel_rfl) (by kernel_rfl) (by kernel_rfl) (fun _ _ _ h => h) (Or.inl ⟨by rfl, fun w' hSw => ?_⟩) HS.out ?_
      · go_simp
      simp only [Act.put, List.setIfInBounds_toArray, List.set_cons_succ, List.set_cons_zero]
      refine wpAnyH_take (i := 2) (oi := ⟨some 79, _, _, _, _, _⟩) (v := .pointer (some ⟨n + 1, 0, none⟩)) rfl (by kernel_rfl) (by kernel_rfl) (by kernel_rfl) (fun _ _ _ h => h) (Or.inl ⟨by rfl, fun w' hSw => ?_⟩) HS.out ?_
      · go_simp
      simp only [Act.put, List.setIfInBounds_toArray, List.set_cons_succ, List.set_cons_zero]
      refine wpAnyH_take (i := 3) (oi := ⟨some 80, _, _, _, _, _⟩) (v := .pointer (some ⟨n + 1, 0, none⟩)) rfl (by kernel_rfl) (by kernel_rfl) (by kernel_rfl) (fun _ _ _ h => h) (Or.inl ⟨by rfl, fun w' hSw => ?_⟩) HS.out ?_
      · go_simp
      simp only [Act.put, List.setIfInBounds_toArray, List.set_cons_succ, List.set_cons_zero]
      refine wpAnyH_take (i := 4) (oi := ⟨some 81, _, _, _, _, _⟩) (v := .pointer (some ⟨n + 1, 1, none⟩)) rfl (by kernel_rfl) (by kernel_rfl) (by kernel_rfl) (fun _ _ _ h => h) (Or.inl ⟨by rfl, fun w' hSw => ?_⟩) HS.out ?_
      · go_simp
      simp only [Act.put, List.setIfInBounds_toArray, List.set_cons_succ, List.set_cons_zero]
      refine wpAnyH_take (i := 5) (oi := ⟨some 82, _, _, _, _, _⟩) (v := .int .i64 (PE : Int)) rfl (by kernel_rfl) (by kernel_rfl) (by kernel_rfl) (fun _ _ _ h => h) (Or.inl ⟨by rfl, fun w' hSw => ?_⟩) HS.out ?_
      · have h := hSw.2
        go_simp
      simp only [Act.put, List.setIfInBounds_toArray, List.set_cons_succ, List.set_cons_zero]
      refine wpAnyH_ready (rs := [6]) (by kernel_rfl) (by simp) ?_
      refine AllReadyH.cons (i := 6) rfl (fun K hK => ?_) AllReadyH.nil
      rw [if_pos (by rfl)]
      refine step_store_row 66 _ _ rfl n 66 (hdC 0 0 ⟨#[]⟩ ⟨#[]⟩ ⟨#[]⟩ 0 0 0 false (.slice none 0 0)) (hdC (m : Int) (V : Int) D S ⟨#[]⟩ (l6 : Int) 0 0 false (.slice none 0 0)) rfl rfl RS.out rfl (by kernel_rfl) (hdC_one _ _ _ _ _ _ _ _ _) ?_
      intro w9 rs
      have RS9 := Lib.hid rs
      have HS9 : Hid (Kept n (PE) (hdC (m : Int) (V : Int) D S ⟨#[]⟩ (l6 : Int) 0 0 false (.slice none 0 0)) w9) := Lib.hid ⟨rs.keep (by omega) HS.out.1, by rw [rs.chg.cell (p := ⟨n + 1, 1, none⟩) (by have := lt_row HD.out; show n + 1 < w8.heap.size; omega) (by show n + 1 ≠ n; omega)]; exact HS.out.2⟩
      clear rs
      refine hK.out _ _ HS9.out (fun _ => ?_)
      clear hK K HS
      have HS := HS9
      clear HS9
      simp only [Act.put, List.setIfInBounds_toArray, List.set_cons_succ, List.set_cons_zero]
      refine wpAnyH_take (i := 7) (oi := ⟨some 3, _, _, _, _, _⟩) (v := .int .i64 (p6 : Int)) rfl (by kernel_rfl) (by kernel_rfl) (by kernel_rfl) (fun _ _ _ h => h) (Or.inl ⟨by rfl, fun w' hSw => ?_⟩) HS.out ?_
      · go_simp
      simp only [Act.put, List.setIfInBounds_toArray, List.set_cons_succ, List.set_cons_zero]
      refine wpAnyH_take (i := 8) (oi := ⟨some 4, _, _, _, _, _⟩) (v := .int .i64 (PE : Int)) rfl (by kernel_rfl) (by kernel_rfl) (by kernel_rfl) (fun _ _ _ h => h) (Or.inl ⟨by rfl, fun w' hSw => ?_⟩) HS.out ?_
      · go_simp
      simp only [Act.put, List.setIfInBounds_toArray, List.set_cons_succ, List.set_cons_zero]
      refine wpAnyH_take (i := 9) (oi := ⟨some 5, _, _, _, _, _⟩) (v := .int .i64 0) rfl (by kernel_rfl) (by kernel_rfl) (by kernel_rfl) (fun _ _ _ h => h) (Or.inl ⟨by rfl, fun w' hSw => ?_⟩) HS.out ?_
      · go_simp
      simp only [Act.put, List.setIfInBounds_toArray, List.set_cons_succ, List.set_cons_zero]
      refine wpAnyH_done (by kernel_rfl) ?_ _
      go_wp2_with fail
      refine bodyPost_ret (results_hd rfl _ _ n 66 (hdC (m : Int) (V : Int) D S ⟨#[]⟩ (l6 : Int) 0 0 false (.slice none 0 0)) (0, 0) _ rfl RS9.out.row Tryd.underlying66 ⟨_, rfl⟩ (by kernel_rfl)) rfl ?_
      rw [← GD.out]
      exact ⟨none, 0, rfl, by rw [HNS.out]; exact INW.out, (I8.out.chg ((Chg.refl n w8).drew.trans RS9.out.chg) IN0.out), by rw [HNS.out]; exact BL.out.drew.trans (RS9.out.below n (by omega))⟩
    · rw [if_neg hE0] at hgd
      have GD := Lib.hid hgd
      clear hgd
      have HE0 := Lib.hid hE0
      go_upto_region 21 with (fail)
      have HS : Hid (w8.drew.cell? ⟨n + 1, 2, none⟩ = some (.int .i64 E)) := Lib.hid r2
      clear r0 r1 r2 c0 c1 c2 c3 c4 c5 c9
      refine wp_region_held_drew (S := fun w' => w'.cell? ⟨n + 1, 2, none⟩ = some (.int .i64 E)) mixedOrders HS.out (fun hHeld => ?_)
      clear hHeld
      refine wpAnyH_take (i := 0) (oi := ⟨some 72, _, _, _, _, _⟩) (v := .agg (hdC 0 0 ⟨#[]⟩ ⟨#[]⟩ ⟨#[]⟩ 0 0 0 false (.slice none 0 0))) rfl (by kernel_rfl) (by kernel_rfl) (by kernel_rfl) (fun _ _ _ h => h) (Or.inl ⟨by rfl, fun w' hSw => ?_⟩) HS.out ?_
      · have h := build_hd0 w'
        go_simp
        rfl
      simp only [Act.put, List.setIfInBounds_toArray, List.set_cons_succ, List.set_cons_zero]
      refine wpAnyH_take (i := 1) (oi := ⟨some 73, _, _, _, _, _⟩) (v := .pointer (some ⟨n + 1, 0, none⟩)) rfl (by kernel_rfl) (by kernel_rfl) (by kernel_rfl) (fun _ _ _ h => h) (Or.inl ⟨by rfl, fun w' hSw => ?_⟩) HS.out ?_
      · go_simp
      simp only [Act.put, List.setIfInBounds_toArray, List.set_cons_succ, List.set_cons_zero]
      refine wpAnyH_take (i := 2) (oi := ⟨some 74, _, _, _, _, _⟩) (v := .pointer (some ⟨n + 1, 0, none⟩)) rfl (by kernel_rfl) (by kernel_rfl) (by kernel_rfl) (fun _ _ _ h => h) (Or.inl ⟨by rfl, fun w' hSw => ?_⟩) HS.out ?_
      · go_simp
      simp only [Act.put, List.setIfInBounds_toArray, List.set_cons_succ, List.set_cons_zero]
      refine wpAnyH_take (i := 3) (oi := ⟨some 75, _, _, _, _, _⟩) (v := .pointer (some ⟨n + 1, 2, none⟩)) rfl (by kernel_rfl) (by kernel_rfl) (by kernel_rfl) (fun _ _ _ h => h) (Or.inl ⟨by rfl, fun w' hSw => ?_⟩) HS.out ?_
      · go_simp
      simp only [Act.put, List.setIfInBounds_toArray, List.set_cons_succ, List.set_cons_zero]
      refine wpAnyH_take (i := 4) (oi := ⟨some 76, _, _, _, _, _⟩) (v := .int .i64 E) rfl (by kernel_rfl) (by kernel_rfl) (by kernel_rfl) (fun _ _ _ h => h) (Or.inl ⟨by rfl, fun w' hSw => ?_⟩) HS.out ?_
      · go_simp
      simp only [Act.put, List.setIfInBounds_toArray, List.set_cons_succ, List.set_cons_zero]
      refine wpAnyH_ready (rs := [5]) (by kernel_rfl) (by simp) ?_
      refine AllReadyH.cons (i := 5) rfl (fun K hK => ?_) AllReadyH.nil
      rw [if_pos (by rfl)]
      refine step_store_row 66 _ _ rfl n 66 (hdC 0 0 ⟨#[]⟩ ⟨#[]⟩ ⟨#[]⟩ 0 0 0 false (.slice none 0 0)) (hdC 0 0 ⟨#[]⟩ ⟨#[]⟩ ⟨#[]⟩ 0 0 0 false (.slice none 0 0)) rfl rfl RS.out rfl (by kernel_rfl) (hdC_one _ _ _ _ _ _ _ _ _) ?_
      intro w9 rs
      have RS9 := Lib.hid rs
      have HS9 : Hid (w9.cell? ⟨n + 1, 2, none⟩ = some (.int .i64 E)) := Lib.hid (by rw [rs.chg.cell (p := ⟨n + 1, 2, none⟩) (by have := lt_row HD.out; show n + 1 < w8.heap.size; omega) (by show n + 1 ≠ n; omega)]; exact HS.out)
      clear rs
      refine hK.out _ _ HS9.out (fun _ => ?_)
      clear hK K HS
      have HS := HS9
      clear HS9
      simp only [Act.put, List.setIfInBounds_toArray, List.set_cons_succ, List.set_cons_zero]
      refine wpAnyH_take (i := 6) (oi := ⟨some 3, _, _, _, _, _⟩) (v := .int .i64 0) rfl (by kernel_rfl) (by kernel_rfl) (by kernel_rfl) (fun _ _ _ h => h) (Or.inl ⟨by rfl, fun w' hSw => ?_⟩) HS.out ?_
      · go_simp
      simp only [Act.put, List.setIfInBounds_toArray, List.set_cons_succ, List.set_cons_zero]
      refine wpAnyH_take (i := 7) (oi := ⟨some 4, _, _, _, _, _⟩) (v := .int .i64 0) rfl (by kernel_rfl) (by kernel_rfl) (by kernel_rfl) (fun _ _ _ h => h) (Or.inl ⟨by rfl, fun w' hSw => ?_⟩) HS.out ?_
      · go_simp
      simp only [Act.put, List.setIfInBounds_toArray, List.set_cons_succ, List.set_cons_zero]
      refine wpAnyH_take (i := 8) (oi := ⟨some 5, _, _, _, _, _⟩) (v := .int .i64 E) rfl (by kernel_rfl) (by kernel_rfl) (by kernel_rfl) (fun _ _ _ h => h) (Or.inl ⟨by rfl, fun w' hSw => ?_⟩) HS.out ?_
      · go_simp
      simp only [Act.put, List.setIfInBounds_toArray, List.set_cons_succ, List.set_cons_zero]
      refine wpAnyH_done (by kernel_rfl) ?_ _
      go_wp2_with fail
      refine bodyPost_ret (results_hd rfl _ _ n 66 (hdC 0 0 ⟨#[]⟩ ⟨#[]⟩ ⟨#[]⟩ 0 0 0 false (.slice none 0 0)) (0, 0) _ rfl RS9.out.row Tryd.underlying66 ⟨_, rfl⟩ (by kernel_rfl)) rfl ?_
      rw [← GD.out]
      exact ⟨none, 0, rfl, (fun y hy => by cases hy), ints_none _, by rw [HNS.out]; exact BL.out.drew.trans (RS9.out.below n (by omega))⟩
end Go.Proofs.YtcgbhcmgddgheaaDoor
namespace Go.Proofs.YtcgbhcmgddgheaaDoor
open Go Go.RowKit Go.BigFrame
set_option linter.unusedSimpArgs false
set_option linter.unusedVariables false
set_option maxRecDepth 100000
/-- Does it begin with a long header whose Version is 0? -/
def sv (f : Nat → BitVec 8) (len : Nat) : Prop := ¬ f 0 &&& 128#8 = 0#8 ∧ 5 ≤ len ∧ f 1 = 0#8 ∧ f 2 = 0#8 ∧ f 3 = 0#8 ∧ f 4 = 0#8
instance (f : Nat → BitVec 8) (len : Nat) : Decidable (sv f len) := by unfold sv; infer_instance
theorem bit_test (x c : BitVec 8) : (n8 (x &&& c) == 0) = decide (x &&& c = 0#8) := by
  have h := n8_inj (x &&& c) 0#8
  rw [show n8 0#8 = 0 from by unfold n8; rfl] at h
  by_cases hc : x &&& c = 0#8
  · rw [decide_eq_true hc, hc, show n8 0#8 = 0 from by unfold n8; rfl]; rfl
  · rw [decide_eq_false hc]
    exact beq_eq_false_iff_ne.2 (fun e => hc (by rw [← h]; exact e))
theorem load4 (g : Nat → BitVec 8) (b o : Nat) (w : World) (hc : ∀ i, i < 4 → w.cell? ⟨b, o + i, none⟩ = some (.int .u8 (n8 (g i)))) :
    (Instr.loadAt 112 (.pointer (some ⟨b, o, none⟩))).run Tryd.prog w = .ok (.agg (bytesArr g 4)) w := by
  have h := run_loadAt_mid (P := Tryd.prog) w b o 112 (bytesArr g 4).toList (.array 4 5) (fun j v hj => by
    have h4 : j < 4 := by have := (List.getElem?_eq_some_iff.1 hj).1; simpa [bytesArr] using this
    rw [hc j h4]
    rw [Array.getElem?_toList, bytesArr_get g 4 j h4] at hj
    exact hj) (by kernel_rfl) rfl (by rw [Array.length_toList]; kernel_rfl)
  rw [Array.toArray_toList] at h
  exact h
theorem eq4 (p q : Nat → BitVec 8) (w : World) : ∃ r, (Op.equalIn 10000 112 (.agg (bytesArr p 4)) (.agg (bytesArr q 4))).run Tryd.prog w = .ok r w ∧ (r = true ↔ ∀ i, i < 4 → p i = q i) :=
  ⟨_, run_eq_bytes (P := Tryd.prog) (t := 112) (e := 5) (n := 4) p q w (by kernel_rfl) (by kernel_rfl) (by kernel_rfl) (by kernel_rfl) (by kernel_rfl), decide_eq_true_iff⟩
theorem run_one (b o len cap : Nat) (hl : 5 ≤ len) (hc : len ≤ cap) (w : World) : (Instr.sliceAt 26 (.slice (some ⟨b, o, none⟩) len cap) (some (.int .i64 1)) none none).run Tryd.prog w = .ok (.slice (some ⟨b, o + 1, none⟩) (len - 1) (cap - 1)) w := by
  obtain ⟨a', h1, h2, _⟩ := run_from (some ⟨b, o, none⟩) 1 len cap (by omega)
  rw [h2 (by omega)] at h1
  have h := h1 w
  rw [show ((1 : Nat) : Int) = 1 from rfl] at h
  rw [h]
  simp [Addr.add_mid]
theorem sv_decide (f : Nat → BitVec 8) (len : Nat) (h0 : ¬ f 0 &&& 128#8 = 0#8) (h5 : 5 ≤ len) (r : Bool) (hr : r = true ↔ ∀ i, i < 4 → (fun i => f (1 + i)) i = (fun _ => 0#8) i) : r = decide (sv f len) := by
  rw [Bool.eq_iff_iff, hr, decide_eq_true_iff]
  unfold sv
  constructor
  · intro h
    exact ⟨h0, h5, h 0 (by omega), h 1 (by omega), h 2 (by omega), h 3 (by omega)⟩
  · rintro ⟨_, _, h1, h2, h3, h4⟩ i hi
    match i, hi with
    | 0, _ => exact h1
    | 1, _ => exact h2
    | 2, _ => exact h3
    | 3, _ => exact h4
set_option maxHeartbeats 4000000 in
theorem saysVersions_any (f : Nat → BitVec 8) (b off len cap : Nat) (w : World) (hl : 1 ≤ len) (hc : ∀ i, i < len → w.cell? ⟨b, off + i, none⟩ = some (.int .u8 (n8 (f i)))) (hlc : len ≤ cap) (hcm : cap ≤ maxLen) :
    Calls Tryd.prog 67 #[.slice (some ⟨b, off, none⟩) len cap] w fun e w' => e = .returned (.bool (decide (sv f len))) ∧ w = w' := by
  have hcell : w.cell? ⟨b, off, none⟩ = some (.int .u8 (n8 (f 0))) := by have h := hc 0 (by omega); simpa using h
  have hm : len ≤ 9223372036854775807 := by unfold maxLen at hcm; omega
  by_cases h0 : f 0 &&& 128#8 = 0#8
  · rw [decide_eq_false (show ¬ sv f len from fun h => h.1 h0)]
    have hb : (n8 (f 0 &&& 128#8) == 0) = true := by rw [bit_test, decide_eq_true h0]
    clear hc h0
    go_enter Tryd.func67, Tryd.ntmps67
    go_wp2_with fail
    go_ret
    exact ⟨rfl, rfl⟩
  · have hb : (n8 (f 0 &&& 128#8) == 0) = false := by rw [bit_test, decide_eq_false h0]
    by_cases h5 : 5 ≤ len
    · have hs := run_one b off len cap h5 hlc
      have har : ∀ w', (Instr.arrayAt 112 (.slice (some ⟨b, off + 1, none⟩) (len - 1) (cap - 1))).run Tryd.prog w' = .ok (.pointer (some ⟨b, off + 1, none⟩)) w' := fun w' => run_arrayAt w' 112 5 4 _ (len - 1) (cap - 1) (by kernel_rfl) (by omega)
      have hld := load4 (fun i => f (1 + i)) b (off + 1) w (fun i hi => by rw [Nat.add_assoc]; exact hc (1 + i) (by omega))
      obtain ⟨R, heq, hR⟩ := eq4 (fun i => f (1 + i)) (fun _ => 0#8) w
      rw [← sv_decide f len h0 h5 R hR]
      clear hR
      generalize bytesArr (fun i => f (1 + i)) 4 = X at hld heq
      rw [show bytesArr (fun _ => 0#8) 4 = #[.int .u8 0, .int .u8 0, .int .u8 0, .int .u8 0] from by rw [← zeros_bytes]; rfl] at heq
      clear hc h0
      go_enter Tryd.func67, Tryd.ntmps67
      go_wp2_with (first
        | (refine wpList_run (o := ⟨some 16, .load 112 _, _, _, _, _⟩) (v := .agg X) (w' := w) rfl (quiet_run hld) ?_)
        | fail)
      go_ret
      exact ⟨rfl, rfl⟩
    · rw [decide_eq_false (show ¬ sv f len from fun h => h5 h.2.1)]
      have h5i : (len : Int) < 5 := by omega
      clear hc h0
      go_enter Tryd.func67, Tryd.ntmps67
      go_wp2_with fail
      go_ret
      exact ⟨rfl, rfl⟩
/-- What Get answers of bytes. -/
def getP (f : Nat → BitVec 8) (len : Nat) (own : Int) : Got :=
  if ¬ (0 ≤ own ∧ own ≤ 20) then Got.no 1
  else if len = 0 then Got.no 3
  else if f 0 &&& 64#8 = 0#8 ∧ ¬ sv f len then Got.no 2
  else if f 0 &&& 128#8 = 0#8 then (if (len : Int) < 1 + own then Got.no 3 else ⟨4, 0, strOf (fun i => f (1 + i)) own.toNat, ⟨#[]⟩, ⟨#[]⟩, 0, [], 1 + own.toNat, len, 0⟩)
  else long f len
theorem hd_zero : (Tryd.prog.info? 66).map (·.zero) = some (some (.agg (hdC 0 0 ⟨#[]⟩ ⟨#[]⟩ ⟨#[]⟩ 0 0 0 false (.slice none 0 0)))) := by kernel_rfl
theorem GotPost.no_ (e : Int) (w0 w : World) (n : Nat) (hn : w0.heap.size = n) (h : Below n w0 w) (x : Ending) (hx : x = .returned (.tuple #[.agg (hdC 0 0 ⟨#[]⟩ ⟨#[]⟩ ⟨#[]⟩ 0 0 0 false (.slice none 0 0)), .int .i64 0, .int .i64 0, .int .i64 e])) : GotPost (Got.no e) w0 x w :=
  ⟨none, 0, hx, (fun y hy => by cases hy), ints_none _, by rw [hn]; exact h⟩
set_option maxHeartbeats 8000000 in
theorem getShort_any (f : Nat → BitVec 8) (b off len cap : Nat) (own : Int) (w : World) (hl : 1 ≤ len) (hB : BytesIn w (some ⟨b, off, none⟩) len f) (hlc : len ≤ cap) (hcm : cap ≤ maxLen) (h0 : 0 ≤ own) (h20 : own ≤ 20) :
    Calls Tryd.prog 68 #[.slice (some ⟨b, off, none⟩) len cap, .int .i64 own] w
      (GotPost (if (len : Int) < 1 + own then Got.no 3 else ⟨4, 0, strOf (fun i => f (1 + i)) own.toNat, ⟨#[]⟩, ⟨#[]⟩, 0, [], 1 + own.toNat, len, 0⟩) w) := by
  have hm : len ≤ 9223372036854775807 := by unfold maxLen at hcm; omega
  by_cases hlt : (len : Int) < 1 + own
  · rw [if_pos hlt]
    go_enter Tryd.func68, Tryd.ntmps68
    go_upto_region 1 with (first
      | (refine wpList_alloc_row (o := ⟨some 4, .alloc 66, _, _, _, _⟩) rfl 66 rfl _ hd_zero ?_)
      | fail)
    have rr := heap_alloc_last w (.cells (hdC 0 0 ⟨#[]⟩ ⟨#[]⟩ ⟨#[]⟩ 0 0 0 false (.slice none 0 0)) 66)
    have bel := (Below.refl w.heap.size w).alloc (Nat.le_refl _) (.cells (hdC 0 0 ⟨#[]⟩ ⟨#[]⟩ ⟨#[]⟩ 0 0 0 false (.slice none 0 0)) 66)
    generalize World.alloc _ _ = w1 at *
    have RR := Lib.hid rr
    have BEL := Lib.hid bel
    have NN : Hid (w.heap.size = w.heap.size) := Lib.hid rfl
    clear rr bel
    go_wp2_with (first
      | (refine wpList_store_row (op := ⟨none, .store 66 _ _, _, _, _, _⟩) rfl 66 _ _ rfl w.heap.size 66 _ (hdC 0 0 ⟨#[]⟩ ⟨#[]⟩ ⟨#[]⟩ 0 0 0 false (.slice none 0 0)) rfl rfl RR.out rfl (by kernel_rfl) (hdC_one _ _ _ _ _ _ _ _ _) ?_
         intro w9 rs
         have RS9 := Lib.hid rs
         clear rs)
      | fail)
    refine bodyPost_ret (results_hd rfl _ _ w.heap.size 66 (hdC 0 0 ⟨#[]⟩ ⟨#[]⟩ ⟨#[]⟩ 0 0 0 false (.slice none 0 0)) (0, 0) _ rfl RS9.out.row Tryd.underlying66 ⟨_, rfl⟩ (by kernel_rfl)) rfl ?_
    exact GotPost.no_ 3 w _ _ rfl (BEL.out.trans (RS9.out.below _ (Nat.le_refl _))) _ rfl
  · rw [if_neg hlt]
    obtain ⟨m, rfl⟩ : ∃ m : Nat, own = (m : Int) := ⟨own.toNat, by omega⟩
    rw [show ((m : Int)).toNat = m from rfl]
    obtain ⟨a', hcut, ha'⟩ := run_cut (some ⟨b, off, none⟩) 1 (1 + m) len cap (by omega) (by omega)
    rw [show 1 + m - 1 = m by omega, show ((1 : Nat) : Int) = 1 from rfl, show ((1 + m : Nat) : Int) = 1 + (m : Int) by omega] at hcut
    have hcv := Lib.hid (fun (w' : World) (hb : Below w.heap.size w w') => conv_cut (w := w') (a := some ⟨b, off, none⟩) (a' := a') (len := len) (cap := cap) (lo := 1) (n := m) (f := f) (by
      refine ⟨hB.1, ?_⟩
      rcases hB.2 with h | ⟨k, o, e1, hk, hc⟩
      · exact .inl h
      · exact .inr ⟨k, o, e1, Nat.lt_of_lt_of_le hk hb.size, fun i hi => by rw [hb.cell (p := ⟨k, o + i, none⟩) hk]; exact hc i hi⟩) (by omega) hlc ha' (cap - 1))
    clear hB
    generalize hS : strOf (fun i => f (1 + i)) m = S at hcv ⊢
    clear hS
    go_enter Tryd.func68, Tryd.ntmps68
    go_upto_region 1 with (first
      | (refine wpList_alloc_row (o := ⟨some 4, .alloc 66, _, _, _, _⟩) rfl 66 rfl _ hd_zero ?_)
      | fail)
    have rr := heap_alloc_last w (.cells (hdC 0 0 ⟨#[]⟩ ⟨#[]⟩ ⟨#[]⟩ 0 0 0 false (.slice none 0 0)) 66)
    have bel := (Below.refl w.heap.size w).alloc (Nat.le_refl _) (.cells (hdC 0 0 ⟨#[]⟩ ⟨#[]⟩ ⟨#[]⟩ 0 0 0 false (.slice none 0 0)) 66)
    generalize World.alloc _ _ = w1 at *
    have RR := Lib.hid rr
    have BEL := Lib.hid bel
    have cv := hcv.out w1 bel
    clear rr bel hcv
    go_wp2_with (first
      | (refine wpList_store_row (op := ⟨none, .store 66 _ _, _, _, _, _⟩) rfl 66 _ _ rfl w.heap.size 66 _ (hdC 4 0 S ⟨#[]⟩ ⟨#[]⟩ 0 0 0 false (.slice none 0 0)) rfl rfl RR.out rfl (by kernel_rfl) (hdC_one _ _ _ _ _ _ _ _ _) ?_
         intro w9 rs
         have RS9 := Lib.hid rs
         clear rs)
      | fail)
    refine bodyPost_ret (results_hd rfl _ _ w.heap.size 66 (hdC 4 0 S ⟨#[]⟩ ⟨#[]⟩ 0 0 0 false (.slice none 0 0)) (0, 0) _ rfl RS9.out.row Tryd.underlying66 ⟨_, rfl⟩ (by kernel_rfl)) rfl ?_
    exact ⟨none, 0, by rw [show ((1 + m : Nat) : Int) = 1 + (m : Int) by omega]; rfl, (fun y hy => by cases hy), ints_none _, BEL.out.trans (RS9.out.below _ (Nat.le_refl _))⟩
end Go.Proofs.YtcgbhcmgddgheaaDoor
namespace Go.Proofs.YtcgbhcmgddgheaaDoor
open Go Go.RowKit Go.BigFrame
set_option linter.unusedSimpArgs false
set_option linter.unusedVariables false
set_option maxRecDepth 100000
set_option maxHeartbeats 8000000 in
theorem get_packet (f : Nat → BitVec 8) (a : Option Addr) (len cap : Nat) (own : Int) (w : World) (hB : BytesIn w a len f) (hlc : len ≤ cap) (hcm : cap ≤ maxLen) :
    Calls Tryd.prog 37 #[.slice a len cap, .int .i64 own] w (GotPost (getP f len own) w) := by
  have hm : len ≤ 9223372036854775807 := by unfold maxLen at hcm; omega
  have WY := Lib.hid (fun (h : 0 ≤ own ∧ own ≤ 20) (w' : World) => within_yes own 20 h.1 h.2 w')
  have WN := Lib.hid (fun (h : ¬ (0 ≤ own ∧ own ≤ 20)) (w' : World) => within_no own 20 h w')
  by_cases hown : 0 ≤ own ∧ own ≤ 20
  rotate_left
  · rw [show getP f len own = Got.no 1 from by unfold getP; rw [if_pos hown]]
    go_enter Tryd.func37, Tryd.ntmps37
    go_upto_region 1 with (first
      | (refine wpList_alloc_row (o := ⟨some 4, .alloc 66, _, _, _, _⟩) rfl 66 rfl _ hd_zero ?_)
      | fail)
    have rr := heap_alloc_last w (.cells (hdC 0 0 ⟨#[]⟩ ⟨#[]⟩ ⟨#[]⟩ 0 0 0 false (.slice none 0 0)) 66)
    have bel := (Below.refl w.heap.size w).alloc (Nat.le_refl _) (.cells (hdC 0 0 ⟨#[]⟩ ⟨#[]⟩ ⟨#[]⟩ 0 0 0 false (.slice none 0 0)) 66)
    generalize World.alloc _ _ = w1 at *
    have RR := Lib.hid rr
    have BEL := Lib.hid bel
    clear rr bel
    go_wp2_with fail
    with_reducible refine (WN.out hown _).mono ?_
    rintro x w' ⟨rfl, rfl⟩
    go_wp2_with (first
      | (refine wpList_store_row (op := ⟨none, .store 66 _ _, _, _, _, _⟩) rfl 66 _ _ rfl w.heap.size 66 _ (hdC 0 0 ⟨#[]⟩ ⟨#[]⟩ ⟨#[]⟩ 0 0 0 false (.slice none 0 0)) rfl rfl RR.out rfl (by kernel_rfl) (hdC_one _ _ _ _ _ _ _ _ _) ?_
         intro w9 rs
         have RS9 := Lib.hid rs
         clear rs)
      | fail)
    refine bodyPost_ret (results_hd rfl _ _ w.heap.size 66 (hdC 0 0 ⟨#[]⟩ ⟨#[]⟩ ⟨#[]⟩ 0 0 0 false (.slice none 0 0)) (0, 0) _ rfl RS9.out.row Tryd.underlying66 ⟨_, rfl⟩ (by kernel_rfl)) rfl ?_
    exact GotPost.no_ 1 w _ _ rfl (BEL.out.trans (RS9.out.below _ (Nat.le_refl _))) _ rfl
  by_cases hl0 : len = 0
  · rw [show getP f len own = Got.no 3 from by unfold getP; rw [if_neg (by omega), if_pos hl0]]
    subst hl0
    go_enter Tryd.func37, Tryd.ntmps37
    go_upto_region 1 with (first
      | (refine wpList_alloc_row (o := ⟨some 4, .alloc 66, _, _, _, _⟩) rfl 66 rfl _ hd_zero ?_)
      | fail)
    have rr := heap_alloc_last w (.cells (hdC 0 0 ⟨#[]⟩ ⟨#[]⟩ ⟨#[]⟩ 0 0 0 false (.slice none 0 0)) 66)
    have bel := (Below.refl w.heap.size w).alloc (Nat.le_refl _) (.cells (hdC 0 0 ⟨#[]⟩ ⟨#[]⟩ ⟨#[]⟩ 0 0 0 false (.slice none 0 0)) 66)
    generalize World.alloc _ _ = w1 at *
    have RR := Lib.hid rr
    have BEL := Lib.hid bel
    clear rr bel
    go_wp2_with fail
    with_reducible refine (WY.out hown _).mono ?_
    rintro x w' ⟨rfl, rfl⟩
    go_wp2_with (first
      | (refine wpList_store_row (op := ⟨none, .store 66 _ _, _, _, _, _⟩) rfl 66 _ _ rfl w.heap.size 66 _ (hdC 0 0 ⟨#[]⟩ ⟨#[]⟩ ⟨#[]⟩ 0 0 0 false (.slice none 0 0)) rfl rfl RR.out rfl (by kernel_rfl) (hdC_one _ _ _ _ _ _ _ _ _) ?_
         intro w9 rs
         have RS9 := Lib.hid rs
         clear rs)
      | fail)
    refine bodyPost_ret (results_hd rfl _ _ w.heap.size 66 (hdC 0 0 ⟨#[]⟩ ⟨#[]⟩ ⟨#[]⟩ 0 0 0 false (.slice none 0 0)) (0, 0) _ rfl RS9.out.row Tryd.underlying66 ⟨_, rfl⟩ (by kernel_rfl)) rfl ?_
    exact GotPost.no_ 3 w _ _ rfl (BEL.out.trans (RS9.out.below _ (Nat.le_refl _))) _ rfl
  obtain ⟨b, off, rfl, hbs, hc⟩ : ∃ b off, a = some ⟨b, off, none⟩ ∧ b < w.heap.size ∧ ∀ i, i < len → w.cell? ⟨b, off + i, none⟩ = some (.int .u8 (n8 (f i))) := by
    rcases hB.2 with h0 | h0
    · omega
    · exact h0
  have CC := Lib.hid (fun (w' : World) (hb : Below w.heap.size w w') (i : Nat) (hi : i < len) => (hb.cell (p := ⟨b, off + i, none⟩) hbs).trans (hc i hi))
  have C0 := Lib.hid (fun (w' : World) (hb : Below w.heap.size w w') => (show w'.cell? ⟨b, off, none⟩ = some (.int .u8 (n8 (f 0))) from by have h := CC.out w' hb 0 (by omega); simpa using h))
  have SV := Lib.hid (fun (w' : World) (hb : Below w.heap.size w w') => saysVersions_any f b off len cap w' (by omega) (CC.out w' hb) hlc hcm)
  have hBl : ∀ w' : World, Below w.heap.size w w' → BytesIn w' (some ⟨b, off, none⟩) len f := fun w' hb => ⟨hB.1, .inr ⟨b, off, rfl, Nat.lt_of_lt_of_le hbs hb.size, CC.out w' hb⟩⟩
  have GS := Lib.hid (fun (w' : World) (hb : Below w.heap.size w w') => getShort_any f b off len cap own w' (by omega) (hBl w' hb) hlc hcm hown.1 hown.2)
  have GL := Lib.hid (fun (w' : World) (hb : Below w.heap.size w w') => getLong_any f b off len cap w' (by omega) (hBl w' hb) hlc hcm)
  clear hc hB hBl
  have hli : ¬ (len : Int) = 0 := by omega
  by_cases h64 : f 0 &&& 64#8 = 0#8
  · by_cases hsv : sv f len
    · rw [show getP f len own = long f len from by unfold getP; rw [if_neg (by omega), if_neg hl0, if_neg (fun h => h.2 hsv), if_neg hsv.1]]
      have b64 : (n8 (f 0 &&& 64#8) == 0) = true := by rw [bit_test, decide_eq_true h64]
      have b128 : (n8 (f 0 &&& 128#8) == 0) = false := by rw [bit_test, decide_eq_false hsv.1]
      rw [decide_eq_true hsv] at SV
      generalize long f len = g at GL ⊢
      clear h64 hsv
      go_enter Tryd.func37, Tryd.ntmps37
      go_upto_region 1 with (first
        | (refine wpList_alloc_row (o := ⟨some 4, .alloc 66, _, _, _, _⟩) rfl 66 rfl _ hd_zero ?_)
        | fail)
      have rr := heap_alloc_last w (.cells (hdC 0 0 ⟨#[]⟩ ⟨#[]⟩ ⟨#[]⟩ 0 0 0 false (.slice none 0 0)) 66)
      have bel := (Below.refl w.heap.size w).alloc (Nat.le_refl _) (.cells (hdC 0 0 ⟨#[]⟩ ⟨#[]⟩ ⟨#[]⟩ 0 0 0 false (.slice none 0 0)) 66)
      generalize World.alloc _ _ = w1 at *
      have RR := Lib.hid rr
      have BEL := Lib.hid bel
      clear rr bel
      have c0 := C0.out w1 BEL.out
      go_wp2_with fail
      with_reducible refine (WY.out hown _).mono ?_
      rintro x w' ⟨rfl, rfl⟩
      go_wp2_with fail
      with_reducible refine (SV.out _ BEL.out).mono ?_
      rintro x w' ⟨rfl, rfl⟩
      go_wp2_with fail
      with_reducible refine (GL.out _ BEL.out).mono ?_
      rintro x w2 ⟨aL, cL, rfl, hnew, hi, hb⟩
      have NW : Hid (∀ y, aL = some y → w.heap.size < y.block) := Lib.hid (fun y hy => by have h1 := hnew y hy; have h2 := lt_row RR.out; omega)
      have II := Lib.hid hi
      have HB2 := Lib.hid (BEL.out.trans (hb.mono BEL.out.size))
      have R2 := Lib.hid ((hb.block _ (lt_row RR.out)).trans RR.out)
      clear hi hb hnew
      unfold Got.header
      go_wp2_with (first
        | (refine wpList_store_row (op := ⟨none, .store 66 _ _, _, _, _, _⟩) rfl 66 _ _ rfl w.heap.size 66 _ (hdC g.k g.v g.D g.S g.T g.l 0 0 false (.slice aL g.G.length cL)) rfl rfl R2.out rfl (by kernel_rfl) (hdC_one _ _ _ _ _ _ _ _ _) ?_
           intro w9 rs
           have RS9 := Lib.hid rs
           clear rs)
        | fail)
      refine bodyPost_ret (results_hd rfl _ _ w.heap.size 66 (hdC g.k g.v g.D g.S g.T g.l 0 0 false (.slice aL g.G.length cL)) (0, 0) _ rfl RS9.out.row Tryd.underlying66 ⟨_, rfl⟩ (by kernel_rfl)) rfl ?_
      exact ⟨aL, cL, rfl, (fun y hy => Nat.le_of_lt (NW.out y hy)), II.out.chg RS9.out.chg (fun y hy => by have := NW.out y hy; omega), HB2.out.trans (RS9.out.below _ (Nat.le_refl _))⟩
    · rw [show getP f len own = Got.no 2 from by unfold getP; rw [if_neg (by omega), if_neg hl0, if_pos ⟨h64, hsv⟩]]
      have b64 : (n8 (f 0 &&& 64#8) == 0) = true := by rw [bit_test, decide_eq_true h64]
      rw [decide_eq_false hsv] at SV
      clear h64 hsv
      go_enter Tryd.func37, Tryd.ntmps37
      go_upto_region 1 with (first
        | (refine wpList_alloc_row (o := ⟨some 4, .alloc 66, _, _, _, _⟩) rfl 66 rfl _ hd_zero ?_)
        | fail)
      have rr := heap_alloc_last w (.cells (hdC 0 0 ⟨#[]⟩ ⟨#[]⟩ ⟨#[]⟩ 0 0 0 false (.slice none 0 0)) 66)
      have bel := (Below.refl w.heap.size w).alloc (Nat.le_refl _) (.cells (hdC 0 0 ⟨#[]⟩ ⟨#[]⟩ ⟨#[]⟩ 0 0 0 false (.slice none 0 0)) 66)
      generalize World.alloc _ _ = w1 at *
      have RR := Lib.hid rr
      have BEL := Lib.hid bel
      clear rr bel
      have c0 := C0.out w1 BEL.out
      go_wp2_with fail
      with_reducible refine (WY.out hown _).mono ?_
      rintro x w' ⟨rfl, rfl⟩
      go_wp2_with fail
      with_reducible refine (SV.out _ BEL.out).mono ?_
      rintro x w' ⟨rfl, rfl⟩
      go_wp2_with (first
        | (refine wpList_store_row (op := ⟨none, .store 66 _ _, _, _, _, _⟩) rfl 66 _ _ rfl w.heap.size 66 _ (hdC 0 0 ⟨#[]⟩ ⟨#[]⟩ ⟨#[]⟩ 0 0 0 false (.slice none 0 0)) rfl rfl RR.out rfl (by kernel_rfl) (hdC_one _ _ _ _ _ _ _ _ _) ?_
           intro w9 rs
           have RS9 := Lib.hid rs
           clear rs)
        | fail)
      refine bodyPost_ret (results_hd rfl _ _ w.heap.size 66 (hdC 0 0 ⟨#[]⟩ ⟨#[]⟩ ⟨#[]⟩ 0 0 0 false (.slice none 0 0)) (0, 0) _ rfl RS9.out.row Tryd.underlying66 ⟨_, rfl⟩ (by kernel_rfl)) rfl ?_
      exact GotPost.no_ 2 w _ _ rfl (BEL.out.trans (RS9.out.below _ (Nat.le_refl _))) _ rfl
  · have b64 : (n8 (f 0 &&& 64#8) == 0) = false := by rw [bit_test, decide_eq_false h64]
    by_cases h128 : f 0 &&& 128#8 = 0#8
    · have hg : getP f len own = (if (len : Int) < 1 + own then Got.no 3 else ⟨4, 0, strOf (fun i => f (1 + i)) own.toNat, ⟨#[]⟩, ⟨#[]⟩, 0, [], 1 + own.toNat, len, 0⟩) := by unfold getP; rw [if_neg (by omega), if_neg hl0, if_neg (fun h => h64 h.1), if_pos h128]
      rw [← hg] at GS
      clear hg
      generalize getP f len own = g at GS ⊢
      have b128 : (n8 (f 0 &&& 128#8) == 0) = true := by rw [bit_test, decide_eq_true h128]
      clear h64 h128
      go_enter Tryd.func37, Tryd.ntmps37
      go_upto_region 1 with (first
        | (refine wpList_alloc_row (o := ⟨some 4, .alloc 66, _, _, _, _⟩) rfl 66 rfl _ hd_zero ?_)
        | fail)
      have rr := heap_alloc_last w (.cells (hdC 0 0 ⟨#[]⟩ ⟨#[]⟩ ⟨#[]⟩ 0 0 0 false (.slice none 0 0)) 66)
      have bel := (Below.refl w.heap.size w).alloc (Nat.le_refl _) (.cells (hdC 0 0 ⟨#[]⟩ ⟨#[]⟩ ⟨#[]⟩ 0 0 0 false (.slice none 0 0)) 66)
      generalize World.alloc _ _ = w1 at *
      have RR := Lib.hid rr
      have BEL := Lib.hid bel
      clear rr bel
      have c0 := C0.out w1 BEL.out
      go_wp2_with fail
      with_reducible refine (WY.out hown _).mono ?_
      rintro x w' ⟨rfl, rfl⟩
      go_wp2_with fail
      with_reducible refine (GS.out _ BEL.out).mono ?_
      rintro x w2 ⟨aL, cL, rfl, hnew, hi, hb⟩
      have NW : Hid (∀ y, aL = some y → w.heap.size < y.block) := Lib.hid (fun y hy => by have h1 := hnew y hy; have h2 := lt_row RR.out; omega)
      have II := Lib.hid hi
      have HB2 := Lib.hid (BEL.out.trans (hb.mono BEL.out.size))
      have R2 := Lib.hid ((hb.block _ (lt_row RR.out)).trans RR.out)
      clear hi hb hnew
      unfold Got.header
      go_wp2_with (first
        | (refine wpList_store_row (op := ⟨none, .store 66 _ _, _, _, _, _⟩) rfl 66 _ _ rfl w.heap.size 66 _ (hdC g.k g.v g.D g.S g.T g.l 0 0 false (.slice aL g.G.length cL)) rfl rfl R2.out rfl (by kernel_rfl) (hdC_one _ _ _ _ _ _ _ _ _) ?_
           intro w9 rs
           have RS9 := Lib.hid rs
           clear rs)
        | fail)
      refine bodyPost_ret (results_hd rfl _ _ w.heap.size 66 (hdC g.k g.v g.D g.S g.T g.l 0 0 false (.slice aL g.G.length cL)) (0, 0) _ rfl RS9.out.row Tryd.underlying66 ⟨_, rfl⟩ (by kernel_rfl)) rfl ?_
      exact ⟨aL, cL, rfl, (fun y hy => Nat.le_of_lt (NW.out y hy)), II.out.chg RS9.out.chg (fun y hy => by have := NW.out y hy; omega), HB2.out.trans (RS9.out.below _ (Nat.le_refl _))⟩
    · rw [show getP f len own = long f len from by unfold getP; rw [if_neg (by omega), if_neg hl0, if_neg (fun h => h64 h.1), if_neg h128]]
      have b128 : (n8 (f 0 &&& 128#8) == 0) = false := by rw [bit_test, decide_eq_false h128]
      generalize long f len = g at GL ⊢
      clear h64 h128
      go_enter Tryd.func37, Tryd.ntmps37
      go_upto_region 1 with (first
        | (refine wpList_alloc_row (o := ⟨some 4, .alloc 66, _, _, _, _⟩) rfl 66 rfl _ hd_zero ?_)
        | fail)
      have rr := heap_alloc_last w (.cells (hdC 0 0 ⟨#[]⟩ ⟨#[]⟩ ⟨#[]⟩ 0 0 0 false (.slice none 0 0)) 66)
      have bel := (Below.refl w.heap.size w).alloc (Nat.le_refl _) (.cells (hdC 0 0 ⟨#[]⟩ ⟨#[]⟩ ⟨#[]⟩ 0 0 0 false (.slice none 0 0)) 66)
      generalize World.alloc _ _ = w1 at *
      have RR := Lib.hid rr
      have BEL := Lib.hid bel
      clear rr bel
      have c0 := C0.out w1 BEL.out
      go_wp2_with fail
      with_reducible refine (WY.out hown _).mono ?_
      rintro x w' ⟨rfl, rfl⟩
      go_wp2_with fail
      with_reducible refine (GL.out _ BEL.out).mono ?_
      rintro x w2 ⟨aL, cL, rfl, hnew, hi, hb⟩
      have NW : Hid (∀ y, aL = some y → w.heap.size < y.block) := Lib.hid (fun y hy => by have h1 := hnew y hy; have h2 := lt_row RR.out; omega)
      have II := Lib.hid hi
      have HB2 := Lib.hid (BEL.out.trans (hb.mono BEL.out.size))
      have R2 := Lib.hid ((hb.block _ (lt_row RR.out)).trans RR.out)
      clear hi hb hnew
      unfold Got.header
      go_wp2_with (first
        | (refine wpList_store_row (op := ⟨none, .store 66 _ _, _, _, _, _⟩) rfl 66 _ _ rfl w.heap.size 66 _ (hdC g.k g.v g.D g.S g.T g.l 0 0 false (.slice aL g.G.length cL)) rfl rfl R2.out rfl (by kernel_rfl) (hdC_one _ _ _ _ _ _ _ _ _) ?_
           intro w9 rs
           have RS9 := Lib.hid rs
           clear rs)
        | fail)
      refine bodyPost_ret (results_hd rfl _ _ w.heap.size 66 (hdC g.k g.v g.D g.S g.T g.l 0 0 false (.slice aL g.G.length cL)) (0, 0) _ rfl RS9.out.row Tryd.underlying66 ⟨_, rfl⟩ (by kernel_rfl)) rfl ?_
      exact ⟨aL, cL, rfl, (fun y hy => Nat.le_of_lt (NW.out y hy)), II.out.chg RS9.out.chg (fun y hy => by have := NW.out y hy; omega), HB2.out.trans (RS9.out.below _ (Nat.le_refl _))⟩
end Go.Proofs.YtcgbhcmgddgheaaDoor
namespace Go.Proofs.YtcgbhcmgddgheaaDoor
open Go Go.RowKit Go.BigFrame
set_option linter.unusedSimpArgs false
set_option linter.unusedVariables false
set_option maxRecDepth 100000
theorem refhd_zero : (Tryd.prog.info? 63).map (·.zero) = some (some (.agg (hdC 0 0 ⟨#[]⟩ ⟨#[]⟩ ⟨#[]⟩ 0 0 0 false (.slice none 0 0)))) := by kernel_rfl
theorem hdC_one' (k v : Int) (D S T : ByteArray) (l N z : Int) (ph : Bool) (aL : Option Addr) (m cL : Nat) : (hdC k v D S T l N z ph (.slice aL m cL)).all (·.oneCell') = true := by
  simp [hdC, Value.oneCell']
set_option maxHeartbeats 4000000 in
theorem ints_same (a1 a2 : Option Addr) (c1 c2 : Nat) (G : List Int) (w : World) (h1 : IntsIn w (.slice a1 G.length c1) G) (h2 : IntsIn w (.slice a2 G.length c2) G) :
    Calls Tryd.prog 70 #[.slice a1 G.length c1, .slice a2 G.length c2] w fun e w' => e = .returned (.bool true) ∧ Below w.heap.size w w' := by
  obtain ⟨a', c', e1, hc1, at1⟩ := h1.at_
  injection e1 with e1 _ e3
  subst e1 e3
  obtain ⟨a', c', e1, hc2, at2⟩ := h2.at_
  injection e1 with e1 _ e3
  subst e1 e3
  have hn63 : G.length ≤ 9223372036854775807 := by have := hc1.1; have := hc1.2; unfold maxLen at *; omega
  have H1 := Lib.hid at1
  have H2 := Lib.hid at2
  clear h1 h2 at1 at2 hc1 hc2
  obtain ⟨n, hn⟩ : ∃ n, G.length = n := ⟨_, rfl⟩
  have HN := Lib.hid hn
  rw [hn]
  have hn' : n ≤ 9223372036854775807 := by omega
  clear hn hn63
  go_enter Tryd.func70, Tryd.ntmps70
  go_wp2_with fail
  go_loopw [5] (fun s5 wr => ∃ j : Nat, j ≤ n ∧ Below w.heap.size w wr ∧ s5 = .int .i64 (j : Int)) (fun s5 _ => ((n : Int) - intOf s5).toNat)
  case atStart => exact ⟨0, by omega, Below.refl _ _, rfl⟩
  case round =>
    obtain ⟨j, hj, hb, rfl⟩ := hrel
    have HB := Lib.hid hb
    by_cases hlt : j < n
    · have hjG : j < G.length := by have := HN.out; omega
      obtain ⟨b1, o1, rfl, l1, hcell1⟩ := H1.out j hjG
      obtain ⟨b2, o2, rfl, l2, hcell2⟩ := H2.out j hjG
      generalize G[j] = y at hcell1 hcell2
      rw [← hb.cell (p := ⟨b1, o1 + j, none⟩) l1] at hcell1
      rw [← hb.cell (p := ⟨b2, o2 + j, none⟩) l2] at hcell2
      have d1 : wr.drew.cell? ⟨b1, o1 + j, none⟩ = some (.int .i64 y) := hcell1
      have d2 : wr.drew.cell? ⟨b2, o2 + j, none⟩ = some (.int .i64 y) := hcell2
      have hji : (j : Int) < (n : Int) := by omega
      clear hjG hb l1 l2
      go_upto_region 6 with (fail)
      go_region
      go_wp2_with fail
      go_roundw
      case rel => exact ⟨j + 1, by omega, HB.out.drew, by congr 1⟩
      case measure => simp [intOf]; omega
    · obtain rfl : j = n := by omega
      clear hb
      go_wp2_with fail
      go_ret
      exact ⟨rfl, HB.out⟩
set_option maxHeartbeats 4000000 in
theorem from_any (k v l N z : Int) (D S T : ByteArray) (ph : Bool) (aL : Option Addr) (m cL : Nat) (w : World) :
    Calls Tryd.prog 39 #[.agg (hdC k v D S T l N z ph (.slice aL m cL))] w fun e w' => e = .returned (.agg (hdC k v D S T l N z ph (.slice aL m cL))) ∧ Below w.heap.size w w' := by
  unfold hdC
  go_enter Tryd.func39, Tryd.ntmps39
  go_upto_region 1 with (first
    | (refine wpList_alloc_row (o := ⟨some 2, .alloc 63, _, _, _, _⟩) rfl 63 rfl _ refhd_zero ?_)
    | fail)
  have r0 := rows_alloc w [.cells (hdC k v D S T l N z ph (.slice aL m cL)) 66, .cells (hdC 0 0 ⟨#[]⟩ ⟨#[]⟩ ⟨#[]⟩ 0 0 0 false (.slice none 0 0)) 63] 0
  have r1 := rows_alloc w [.cells (hdC k v D S T l N z ph (.slice aL m cL)) 66, .cells (hdC 0 0 ⟨#[]⟩ ⟨#[]⟩ ⟨#[]⟩ 0 0 0 false (.slice none 0 0)) 63] 1
  have bel : Below w.heap.size w ((w.alloc (.cells (hdC k v D S T l N z ph (.slice aL m cL)) 66)).alloc (.cells (hdC 0 0 ⟨#[]⟩ ⟨#[]⟩ ⟨#[]⟩ 0 0 0 false (.slice none 0 0)) 63)) := ((Below.refl w.heap.size w).alloc (Nat.le_refl _) _).alloc (by simp) _
  have hs1 : (w.alloc (.cells (hdC k v D S T l N z ph (.slice aL m cL)) 66)).heap.size = w.heap.size + 1 := by simp
  simp only [List.foldl_cons, List.foldl_nil, Nat.add_zero] at r0 r1
  have RB := Lib.hid bel
  rw [show (w.alloc (.cells #[.int .i64 k, .int .i64 v, .string D, .string S, .string T, .int .i64 l, .int .i64 N, .int .i64 z, .bool ph, .slice aL m cL] 66)) = (w.alloc (.cells (hdC k v D S T l N z ph (.slice aL m cL)) 66)) from rfl]
  try rw [hs1]
  generalize World.alloc _ _ = w1 at *
  obtain ⟨c0, c1, c2, c3, c4, c5, c6, c7, c8, c9⟩ := cells10 r0
  have R1 := Lib.hid r1
  clear r0 r1 bel hs1
  go_wp2_with (first
    | (refine wpList_store_row (op := ⟨none, .store 63 _ _, _, _, _, _⟩) rfl 63 _ _ rfl (w.heap.size + 1) 63 _ (hdC k v D S T l N z ph (.slice aL m cL)) rfl rfl R1.out rfl (by kernel_rfl) (hdC_one' _ _ _ _ _ _ _ _ _ _ _ _) ?_
       intro w9 rs
       have RS9 := Lib.hid rs
       clear rs)
    | fail)
  refine ret_row (w.heap.size + 1) 63 63 (hdC k v D S T l N z ph (.slice aL m cL)) rfl _ rfl RS9.out.row Tryd.underlying63 rfl (by kernel_rfl) rfl ?_
  exact ⟨rfl, RB.out.trans (RS9.out.below _ (Nat.le_succ _))⟩
set_option maxHeartbeats 8000000 in
theorem same_yes (k v l N z : Int) (D S T : ByteArray) (ph : Bool) (a1 a2 : Option Addr) (c1 c2 : Nat) (G : List Int) (w : World) (h1 : IntsIn w (.slice a1 G.length c1) G) (h2 : IntsIn w (.slice a2 G.length c2) G) :
    Calls Tryd.prog 38 #[.agg (hdC k v D S T l N z ph (.slice a1 G.length c1)), .agg (hdC k v D S T l N z ph (.slice a2 G.length c2))] w fun e w' => e = .returned (.bool true) ∧ Below w.heap.size w w' := by
  have IS := Lib.hid (fun (w' : World) (hb : Below w.heap.size w w') => ints_same a1 a2 c1 c2 G w' (h1.later hb) (h2.later hb))
  clear h1 h2
  generalize G.length = n at *
  unfold hdC
  have bel : Below w.heap.size w ((w.alloc (.cells #[.int .i64 k, .int .i64 v, .string D, .string S, .string T, .int .i64 l, .int .i64 N, .int .i64 z, .bool ph, .slice a1 n c1] 63)).alloc (.cells #[.int .i64 k, .int .i64 v, .string D, .string S, .string T, .int .i64 l, .int .i64 N, .int .i64 z, .bool ph, .slice a2 n c2] 63)) := ((Below.refl w.heap.size w).alloc (Nat.le_refl _) _).alloc (by simp) _
  have BEL := Lib.hid bel
  clear bel
  go_enter Tryd.func38, Tryd.ntmps38
  go_wp2_with fail
  with_reducible refine (IS.out _ BEL.out).mono ?_
  rintro x w' ⟨rfl, hb⟩
  have HB := Lib.hid (BEL.out.trans (hb.mono BEL.out.size))
  clear hb
  go_wp2_with fail
  go_ret
  exact ⟨rfl, HB.out⟩
end Go.Proofs.YtcgbhcmgddgheaaDoor
namespace Go.Proofs.YtcgbhcmgddgheaaDoor
open Go Go.RowKit Go.BigFrame
set_option linter.unusedSimpArgs false
set_option linter.unusedVariables false
set_option maxRecDepth 100000
set_option maxHeartbeats 4000000 in
theorem refNumber_any (g : Nat → BitVec 8) (n : Nat) (hn : n ≤ 4) (w : World) :
    Calls Tryd.prog 64 #[.string (strOf g n)] w fun e w' => e = .returned (.int .i64 (numG g n : Nat)) ∧ w = w' := by
  have hs := strOf_size g n
  go_enter Tryd.func64, Tryd.ntmps64
  go_wp2_with fail
  go_loopw [3, 4] (fun s3 s4 wr => ∃ j : Nat, j ≤ n ∧ wr = w ∧ s4 = .int .i64 (j : Int) ∧ s3 = .int .i64 (numG g j : Nat)) (fun _ s4 _ => ((n : Int) - intOf s4).toNat)
  case atStart => exact ⟨0, by omega, rfl, rfl, rfl⟩
  case round =>
    obtain ⟨j, hj, rfl, rfl, rfl⟩ := hrel
    by_cases hlt : j < n
    · have hx := run_at_str g n j hlt wr
      have hji : (j : Int) < (n : Int) := by omega
      go_wp2_with fail
      have hj4 : numG g j < 4294967296 := Nat.lt_of_lt_of_le (numG_lt _ j) (Nat.le_trans (Nat.pow_le_pow_right (by decide) (show j ≤ 4 by omega)) (by decide))
      have hb := (g j).isLt
      refine ⟨⟨j + 1, by omega, trivial, by congr 1, ?_⟩, by simp [intOf]; omega⟩
      congr 1
      rw [n8_nat, show numG g (j + 1) = numG g j * 256 + (g j).toNat from rfl]
      unfold wrap64
      omega
    · obtain rfl : j = n := by omega
      go_wp2_with fail
      go_ret
      exact ⟨rfl, rfl⟩
theorem run_tail_str (f : Nat → BitVec 8) (lo len : Nat) (h1 : lo ≤ len) (w : World) :
    (Instr.sliceAt 9 (.string (strOf f len)) (some (.int .i64 (lo : Int))) none none).run Tryd.prog w = .ok (.string (strOf (fun i => f (lo + i)) (len - lo))) w := by
  have hu : Tryd.prog.underlying 9 = some .string := by kernel_rfl
  rw [← str_cut f lo len len h1 (Nat.le_refl _)]
  have h0 : (0 : Int) ≤ (lo : Int) := by omega
  have h4 : (lo : Int) ≤ ((strOf f len).size : Int) := by rw [strOf_size]; omega
  have hz := strOf_size f len
  simp [Instr.sliceAt, Instr.slice, Instr.sliceBounds, run_underlying hu, go_sem, h0, h4, Sem.run_bind]
  try (rw [hz])
  try omega
/-- Why a name is none: how many bytes are left, its count. -/
def nmR (left c : Nat) : Int := if left = 0 then 3 else if 20 < c then 2 else if left - 1 < c then 3 else 0
def nmOut (g : Nat → BitVec 8) (n : Nat) : Value :=
  if nmR n (g 0).toNat = 0 then .tuple #[.string (strOf (fun i => g (1 + i)) (g 0).toNat), .string (strOf (fun i => g (1 + (g 0).toNat + i)) (n - (1 + (g 0).toNat))), .int .i64 0] else .tuple #[.string ⟨#[]⟩, .string ⟨#[]⟩, .int .i64 (nmR n (g 0).toNat)]
set_option maxHeartbeats 4000000 in
theorem refName_any (g : Nat → BitVec 8) (n : Nat) (hn : n ≤ 9223372036854775807) (w : World) :
    Calls Tryd.prog 65 #[.string (strOf g n)] w fun e w' => e = .returned (nmOut g n) ∧ Below w.heap.size w w' := by
  have hs := strOf_size g n
  by_cases h0 : n = 0
  · rw [show nmOut g n = .tuple #[.string ⟨#[]⟩, .string ⟨#[]⟩, .int .i64 3] from by unfold nmOut; rw [show nmR n (g 0).toNat = 3 from by unfold nmR; rw [if_pos h0], if_neg (by decide)]]
    subst h0
    rw [str_empty]
    go_enter Tryd.func65, Tryd.ntmps65
    go_wp2_with fail
    go_ret3
    exact ⟨rfl, Below.refl _ _⟩
  have he := str_full (f := g) h0
  have hx := run_at_str g n 0 (by omega) w
  rw [show ((0 : Nat) : Int) = 0 from rfl] at hx
  obtain ⟨c, hc⟩ : ∃ c, (g 0).toNat = c := ⟨_, rfl⟩
  have hw : wrap64 (n8 (g 0)) = (c : Int) := by rw [n8_nat, hc]; have := (g 0).isLt; unfold wrap64; omega
  have hc8 : c < 256 := by rw [← hc]; exact (g 0).isLt
  unfold nmOut
  rw [hc]
  clear hc
  by_cases h20 : 20 < c
  · rw [show nmR n c = 2 from by unfold nmR; rw [if_neg h0, if_pos h20], if_neg (by decide)]
    generalize strOf g n = s at *
    have h20i : (20 : Int) < (c : Int) := by omega
    go_enter Tryd.func65, Tryd.ntmps65
    go_wp2_with fail
    go_ret3
    exact ⟨rfl, Below.refl _ _⟩
  by_cases hl : n - 1 < c
  · rw [show nmR n c = 3 from by unfold nmR; rw [if_neg h0, if_neg h20, if_pos hl], if_neg (by decide)]
    generalize strOf g n = s at *
    have h20i : ¬ (20 : Int) < (c : Int) := by omega
    have hli : (n : Int) - 1 < (c : Int) := by omega
    go_enter Tryd.func65, Tryd.ntmps65
    go_wp2_with fail
    go_ret3
    exact ⟨rfl, Below.refl _ _⟩
  · rw [show nmR n c = 0 from by unfold nmR; rw [if_neg h0, if_neg h20, if_neg hl], if_pos rfl]
    have k1 : ∀ w : World, _ := run_cut_str g 1 (1 + c) n (by omega) (by omega)
    have k2 : ∀ w : World, _ := run_tail_str g (1 + c) n (by omega)
    rw [show 1 + c - 1 = c by omega, show ((1 : Nat) : Int) = 1 from rfl, show ((1 + c : Nat) : Int) = 1 + (c : Int) by omega] at k1
    rw [show ((1 + c : Nat) : Int) = 1 + (c : Int) by omega] at k2
    generalize strOf (fun i => g (1 + i)) c = t1 at *
    generalize strOf (fun i => g (1 + c + i)) (n - (1 + c)) = t2 at *
    generalize strOf g n = s at *
    have h20i : ¬ (20 : Int) < (c : Int) := by omega
    have hli : ¬ (n : Int) - 1 < (c : Int) := by omega
    go_enter Tryd.func65, Tryd.ntmps65
    go_upto_region 8 with (fail)
    go_region
    go_wp2_with fail
    go_ret3
    exact ⟨rfl, (Below.refl _ _).drew⟩
end Go.Proofs.YtcgbhcmgddgheaaDoor
namespace Go.Proofs.YtcgbhcmgddgheaaDoor
open Go Go.RowKit Go.BigFrame
set_option linter.unusedSimpArgs false
set_option linter.unusedVariables false
theorem tk_err {len p : Nat} {e : Int} {n : Nat} (h : ¬ e = 0) : tkN len p e n = 0 ∧ tkE len p e n = e := by
  unfold tkN tkE
  rw [if_neg (by omega), if_neg (by omega)]
  exact ⟨rfl, rfl⟩
theorem tk_ok {len p n : Nat} (h : n ≤ len - p) : tkN len p 0 n = n ∧ tkE len p 0 n = 0 := by
  unfold tkN tkE
  rw [if_pos ⟨rfl, h⟩, if_neg (by omega)]
  exact ⟨rfl, rfl⟩
theorem tk_no {len p n : Nat} (h : len - p < n) : tkN len p 0 n = 0 ∧ tkE len p 0 n = 3 := by
  unfold tkN tkE
  rw [if_neg (by omega), if_pos ⟨rfl, h⟩]
  exact ⟨rfl, rfl⟩
theorem am_err {n most e : Int} (h : ¬ e = 0) : amE n most e = e := by unfold amE; rw [if_neg (by omega)]
theorem am_ok {n most : Int} (h : n ≤ most) : amE n most 0 = 0 := by unfold amE; rw [if_neg (by omega)]
theorem am_no {n most : Int} (h : most < n) : amE n most 0 = 2 := by unfold amE; rw [if_pos ⟨rfl, h⟩]
theorem nmK_ok {n most : Nat} (h : n ≤ most) : nmK n most 0 = n := by unfold nmK; rw [if_pos ⟨rfl, h⟩]
theorem tx_err {len p n most : Nat} {e : Int} (h : ¬ e = 0) : txN len p n most e = 0 ∧ txE len p n most e = e := by
  unfold txN txE
  rw [am_err h]
  exact tk_err h
theorem tx_big {len p n most : Nat} (h : most < n) : txN len p n most 0 = 0 ∧ txE len p n most 0 = 2 := by
  unfold txN txE
  rw [am_no (by omega)]
  exact tk_err (by omega)
theorem tx_ok {len p n most : Nat} (h : n ≤ most) (hl : n ≤ len - p) : txN len p n most 0 = n ∧ txE len p n most 0 = 0 := by
  unfold txN txE
  rw [am_ok (by omega), nmK_ok h]
  exact tk_ok hl
theorem tx_no {len p n most : Nat} (h : n ≤ most) (hl : len - p < n) : txN len p n most 0 = 0 ∧ txE len p n most 0 = 3 := by
  unfold txN txE
  rw [am_ok (by omega), nmK_ok h]
  exact tk_no hl
theorem numG_one (f : Nat → BitVec 8) (p : Nat) : numG (fun i => f (p + i)) 1 = (f p).toNat := by simp [numG]
theorem nm_err {len : Nat} {f : Nat → BitVec 8} {p : Nat} {e : Int} (h : ¬ e = 0) : nmE len f p e = e := by
  unfold nmE
  rw [(tk_err h).2, (tx_err h).2]
theorem nm_bad {len : Nat} {f : Nat → BitVec 8} {p : Nat} {r : Int} (h : nmR (len - p) (f p).toNat = r) (hr : ¬ r = 0) : nmE len f p 0 = r := by
  unfold nmE nmC
  unfold nmR at h
  by_cases h0 : len - p = 0
  · rw [if_pos h0] at h
    rw [(tk_no (by omega)).1, (tk_no (by omega)).2, (tx_err (by omega)).2]
    exact h
  · rw [if_neg h0] at h
    rw [(tk_ok (by omega)).1, (tk_ok (by omega)).2, numG_one]
    by_cases h1 : 20 < (f p).toNat
    · rw [if_pos h1] at h
      rw [(tx_big h1).2]; exact h
    · rw [if_neg h1] at h
      by_cases h2 : len - p - 1 < (f p).toNat
      · rw [if_pos h2] at h
        rw [(tx_no (by omega) (by omega)).2]; exact h
      · rw [if_neg h2] at h
        exact absurd h.symm hr
theorem nm_ok {len : Nat} {f : Nat → BitVec 8} {p : Nat} (h : nmR (len - p) (f p).toNat = 0) : nmE len f p 0 = 0 ∧ nmP len f p 0 = p + 1 + (f p).toNat ∧ nmS len f p 0 = strOf (fun i => f (p + 1 + i)) (f p).toNat ∧ p + 1 + (f p).toNat ≤ len := by
  unfold nmR at h
  by_cases h0 : len - p = 0
  · rw [if_pos h0] at h; cases h
  rw [if_neg h0] at h
  by_cases h1 : 20 < (f p).toNat
  · rw [if_pos h1] at h; cases h
  rw [if_neg h1] at h
  by_cases h2 : len - p - 1 < (f p).toNat
  · rw [if_pos h2] at h; cases h
  have hN : nmN len f p 0 = (f p).toNat := by
    unfold nmN nmC
    rw [(tk_ok (by omega)).1, (tk_ok (by omega)).2, numG_one]
    exact (tx_ok (by omega) (by omega)).1
  have hE : nmE len f p 0 = 0 := by
    unfold nmE nmC
    rw [(tk_ok (by omega)).1, (tk_ok (by omega)).2, numG_one]
    exact (tx_ok (by omega) (by omega)).2
  refine ⟨hE, ?_, ?_, by omega⟩
  · unfold nmP; rw [hN, (tk_ok (by omega)).1]
  · unfold nmS; rw [hN, (tk_ok (by omega)).1]
theorem end_err {len : Nat} {k v : Int} {D S T : ByteArray} {l : Nat} {G : List Int} {p : Nat} {e : Int} (h : ¬ e = 0) : longEnd len k v D S T l G p e = Got.no e := by
  unfold longEnd
  rw [(tk_err h).2, if_neg h]
theorem ct_err {len : Nat} {f : Nat → BitVec 8} {p most : Nat} {e : Int} (h : ¬ e = 0) : ctE len f p most e = e := by unfold ctE; rw [if_neg h]
theorem longKind_err {f : Nat → BitVec 8} {len kd V : Nat} {D S : ByteArray} {p : Nat} {e : Int} (h : ¬ e = 0) : longKind f len kd V D S p e = Got.no e := by
  unfold longKind
  split
  · rw [show vsE len p e = e from by unfold vsE; rw [am_err h, if_neg (by omega)]]
    exact end_err h
  · split
    · rw [(tx_err h).2]; exact end_err h
    · split
      · rw [ct_err h, (tx_err h).2, ct_err h]; exact end_err h
      · rw [ct_err h]; exact end_err h
theorem long_few {f : Nat → BitVec 8} {len : Nat} (h : len < 5) : long f len = Got.no 3 := by
  unfold long
  rw [(tk_no (by omega)).2, nm_err (p := 1 + tkN len 1 0 4) (by omega), nm_err (by omega)]
  exact longKind_err (by omega)
theorem long_n1 {f : Nat → BitVec 8} {len : Nat} {r : Int} (h5 : 5 ≤ len) (h : nmR (len - 5) (f 5).toNat = r) (hr : ¬ r = 0) : long f len = Got.no r := by
  unfold long
  rw [(tk_ok (by omega)).1, (tk_ok (by omega)).2, nm_bad h hr, nm_err hr]
  exact longKind_err hr
theorem long_n2 {f : Nat → BitVec 8} {len : Nat} {r : Int} (h5 : 5 ≤ len) (h1 : nmR (len - 5) (f 5).toNat = 0) (h : nmR (len - (5 + 1 + (f 5).toNat)) (f (5 + 1 + (f 5).toNat)).toNat = r) (hr : ¬ r = 0) : long f len = Got.no r := by
  unfold long
  rw [(tk_ok (by omega)).1, (tk_ok (by omega)).2, (nm_ok h1).1, (nm_ok h1).2.1, nm_bad h hr]
  exact longKind_err hr
theorem long_ok {f : Nat → BitVec 8} {len : Nat} (h5 : 5 ≤ len) (h1 : nmR (len - 5) (f 5).toNat = 0) (h2 : nmR (len - (5 + 1 + (f 5).toNat)) (f (5 + 1 + (f 5).toNat)).toNat = 0) :
    long f len = longKind f len (f 0 >>> 4 &&& 3#8).toNat (numG (fun i => f (1 + i)) 4) (strOf (fun i => f (5 + 1 + i)) (f 5).toNat) (strOf (fun i => f (5 + 1 + (f 5).toNat + 1 + i)) (f (5 + 1 + (f 5).toNat)).toNat)
      (5 + 1 + (f 5).toNat + 1 + (f (5 + 1 + (f 5).toNat)).toNat) 0 := by
  unfold long
  rw [(tk_ok (by omega)).1, (tk_ok (by omega)).2, (nm_ok h1).1, (nm_ok h1).2.1, (nm_ok h1).2.2.1, (nm_ok h2).1, (nm_ok h2).2.1, (nm_ok h2).2.2.1]
theorem lk_v_bad {f : Nat → BitVec 8} {len kd : Nat} {D S : ByteArray} {p : Nat} (h : (len - p) % 4 ≠ 0 ∨ len - p = 0 ∨ 64 < len - p) : longKind f len kd 0 D S p 0 = Got.no 2 := by
  unfold longKind
  have hv : vsE len p 0 = 2 := by
    unfold vsE
    by_cases h1 : (16 : Int) < ((len - p) / 4 : Nat)
    · rw [am_no h1, if_neg (by omega)]
    · rw [am_ok (by omega), if_pos ⟨rfl, by omega⟩]
  rw [if_pos rfl, hv]
  exact end_err (by omega)
theorem lk_v_ok {f : Nat → BitVec 8} {len kd : Nat} {D S : ByteArray} {p : Nat} (h : ¬ ((len - p) % 4 ≠ 0 ∨ len - p = 0 ∨ 64 < len - p)) : longKind f len kd 0 D S p 0 = ⟨5, 0, D, S, ⟨#[]⟩, 0, vsG f p ((len - p) / 4), len, len, 0⟩ := by
  unfold longKind
  have hv : vsE len p 0 = 0 := by
    unfold vsE
    rw [am_ok (by omega), if_neg (by omega)]
  rw [if_pos rfl, hv, if_pos rfl, if_pos rfl]
  unfold longEnd
  rw [(tk_ok (by omega)).1, (tk_ok (by omega)).2, if_pos rfl]
  rfl
theorem lk_3_bad {f : Nat → BitVec 8} {len V : Nat} {D S : ByteArray} {p : Nat} (hV : V ≠ 0) (h : 512 < len - p) : longKind f len 3 V D S p 0 = Got.no 2 := by
  unfold longKind
  rw [if_neg hV, if_pos rfl, (tx_big h).2]
  exact end_err (by omega)
theorem lk_3_ok {f : Nat → BitVec 8} {len V : Nat} {D S : ByteArray} {p : Nat} (hV : V ≠ 0) (hp : p ≤ len) (h : len - p ≤ 512) : longKind f len 3 V D S p 0 = ⟨3, V, D, S, strOf (fun i => f (p + i)) (len - p), 0, [], len, len, 0⟩ := by
  unfold longKind
  rw [if_neg hV, if_pos rfl, (tx_ok h (Nat.le_refl _)).1, (tx_ok h (Nat.le_refl _)).2]
  unfold longEnd
  rw [(tk_ok (by omega)).1, (tk_ok (by omega)).2, if_pos rfl, show p + (len - p) = len by omega]
  rfl
/-- A count, and what is left behind it. -/
def cnt (f : Nat → BitVec 8) (len : Nat) (k : Int) (V : Nat) (D S T : ByteArray) (p : Nat) (e : Int) : Got := longEnd len k (V : Int) D S T (ctV len f p 16383 e) [] (ctP len f p e) (ctE len f p 16383 e)
theorem ct_no {f : Nat → BitVec 8} {len p most : Nat} (h : ctG len f p = false) : ctE len f p most 0 = 3 := by unfold ctE; rw [if_pos rfl, if_neg (by rw [h]; decide)]
theorem ct_big {f : Nat → BitVec 8} {len p most : Nat} (h : ctG len f p = true) (hb : most < getV (fun i => f (p + i)) (len - p)) : ctE len f p most 0 = 2 := by unfold ctE; rw [if_pos rfl, if_pos h, am_no (by omega)]
theorem ct_ok {f : Nat → BitVec 8} {len p most : Nat} (h : ctG len f p = true) (hb : getV (fun i => f (p + i)) (len - p) ≤ most) :
    ctE len f p most 0 = 0 ∧ ctV len f p most 0 = getV (fun i => f (p + i)) (len - p) ∧ ctP len f p 0 = p + getK (fun i => f (p + i)) (len - p) := by
  unfold ctE ctV ctP
  rw [if_pos rfl, if_pos h, if_pos ⟨rfl, h⟩, if_pos ⟨rfl, h⟩, am_ok (by omega), nmK_ok hb]
  exact ⟨rfl, rfl, rfl⟩
theorem cnt_no {f : Nat → BitVec 8} {len V : Nat} {k : Int} {D S T : ByteArray} {p : Nat} (h : ctG len f p = false) : cnt f len k V D S T p 0 = Got.no 3 := by unfold cnt; rw [ct_no h]; exact end_err (by omega)
theorem cnt_big {f : Nat → BitVec 8} {len V : Nat} {k : Int} {D S T : ByteArray} {p : Nat} (h : ctG len f p = true) (hb : 16383 < getV (fun i => f (p + i)) (len - p)) : cnt f len k V D S T p 0 = Got.no 2 := by unfold cnt; rw [ct_big h hb]; exact end_err (by omega)
theorem cnt_few {f : Nat → BitVec 8} {len V : Nat} {k : Int} {D S T : ByteArray} {p : Nat} (h : ctG len f p = true) (hb : getV (fun i => f (p + i)) (len - p) ≤ 16383) (hl : len - (p + getK (fun i => f (p + i)) (len - p)) < getV (fun i => f (p + i)) (len - p)) : cnt f len k V D S T p 0 = Got.no 3 := by
  unfold cnt
  rw [(ct_ok h hb).1, (ct_ok h hb).2.1, (ct_ok h hb).2.2]
  unfold longEnd
  rw [(tk_no hl).2, if_neg (by omega)]
theorem cnt_ok {f : Nat → BitVec 8} {len V : Nat} {k : Int} {D S T : ByteArray} {p : Nat} (h : ctG len f p = true) (hb : getV (fun i => f (p + i)) (len - p) ≤ 16383) (hl : getV (fun i => f (p + i)) (len - p) ≤ len - (p + getK (fun i => f (p + i)) (len - p))) :
    cnt f len k V D S T p 0 = ⟨k, V, D, S, T, (getV (fun i => f (p + i)) (len - p) : Nat), [], p + getK (fun i => f (p + i)) (len - p), p + getK (fun i => f (p + i)) (len - p) + getV (fun i => f (p + i)) (len - p), 0⟩ := by
  unfold cnt
  rw [(ct_ok h hb).1, (ct_ok h hb).2.1, (ct_ok h hb).2.2]
  unfold longEnd
  rw [(tk_ok hl).1, (tk_ok hl).2, if_pos rfl]
theorem lk_other {f : Nat → BitVec 8} {len kd V : Nat} {D S : ByteArray} {p : Nat} (hV : V ≠ 0) (h3 : kd ≠ 3) (h0 : kd ≠ 0) : longKind f len kd V D S p 0 = cnt f len kd V D S ⟨#[]⟩ p 0 := by
  unfold longKind cnt
  rw [if_neg hV, if_neg h3, if_neg h0]
theorem lk_0_no {f : Nat → BitVec 8} {len V : Nat} {D S : ByteArray} {p : Nat} (hV : V ≠ 0) (h : ctG len f p = false) : longKind f len 0 V D S p 0 = Got.no 3 := by
  unfold longKind
  rw [if_neg hV, if_neg (by decide), if_pos rfl, ct_no h, (tx_err (by omega)).2, ct_err (by omega)]
  exact end_err (by omega)
theorem lk_0_big {f : Nat → BitVec 8} {len V : Nat} {D S : ByteArray} {p : Nat} (hV : V ≠ 0) (h : ctG len f p = true) (hb : 512 < getV (fun i => f (p + i)) (len - p)) : longKind f len 0 V D S p 0 = Got.no 2 := by
  unfold longKind
  rw [if_neg hV, if_neg (by decide), if_pos rfl, ct_big h hb, (tx_err (by omega)).2, ct_err (by omega)]
  exact end_err (by omega)
theorem lk_0_few {f : Nat → BitVec 8} {len V : Nat} {D S : ByteArray} {p : Nat} (hV : V ≠ 0) (h : ctG len f p = true) (hb : getV (fun i => f (p + i)) (len - p) ≤ 512) (hl : len - (p + getK (fun i => f (p + i)) (len - p)) < getV (fun i => f (p + i)) (len - p)) : longKind f len 0 V D S p 0 = Got.no 3 := by
  unfold longKind
  rw [if_neg hV, if_neg (by decide), if_pos rfl, (ct_ok h hb).1, (ct_ok h hb).2.1, (ct_ok h hb).2.2, (tx_no hb hl).2, ct_err (by omega)]
  exact end_err (by omega)
theorem lk_0_ok {f : Nat → BitVec 8} {len V : Nat} {D S : ByteArray} {p : Nat} (hV : V ≠ 0) (h : ctG len f p = true) (hb : getV (fun i => f (p + i)) (len - p) ≤ 512) (hl : getV (fun i => f (p + i)) (len - p) ≤ len - (p + getK (fun i => f (p + i)) (len - p))) :
    longKind f len 0 V D S p 0 = cnt f len 0 V D S (strOf (fun i => f (p + getK (fun i => f (p + i)) (len - p) + i)) (getV (fun i => f (p + i)) (len - p))) (p + getK (fun i => f (p + i)) (len - p) + getV (fun i => f (p + i)) (len - p)) 0 := by
  unfold longKind cnt
  rw [if_neg hV, if_neg (by decide), if_pos rfl, (ct_ok h hb).1, (ct_ok h hb).2.1, (ct_ok h hb).2.2, (tx_ok hb hl).1, (tx_ok hb hl).2]
end Go.Proofs.YtcgbhcmgddgheaaDoor
namespace Go.Proofs.YtcgbhcmgddgheaaDoor
open Go Go.RowKit Go.BigFrame
set_option linter.unusedSimpArgs false
set_option linter.unusedVariables false
set_option maxRecDepth 100000
theorem all8 {p : BitVec 8 → Prop} [DecidablePred p] (h : ∀ n, n < 256 → p (BitVec.ofNat 8 n)) (x : BitVec 8) : p x := by
  have h1 := h x.toNat x.isLt
  rwa [BitVec.ofNat_toNat, BitVec.setWidth_eq] at h1
theorem bit128 (x : BitVec 8) : (x &&& 128#8 = 0#8) ↔ x.toNat < 128 := all8 (p := fun x => (x &&& 128#8 = 0#8) ↔ x.toNat < 128) (by decide +kernel) x
theorem bit64 (x : BitVec 8) : (x &&& 64#8 = 0#8) ↔ (x.toNat < 64 ∨ (128 ≤ x.toNat ∧ x.toNat < 192)) := all8 (p := fun x => (x &&& 64#8 = 0#8) ↔ (x.toNat < 64 ∨ (128 ≤ x.toNat ∧ x.toNat < 192))) (by decide +kernel) x
theorem kind4 (x : BitVec 8) : (x >>> 4 &&& 3#8).toNat = x.toNat / 16 % 4 := all8 (p := fun x => (x >>> 4 &&& 3#8).toNat = x.toNat / 16 % 4) (by decide +kernel) x
theorem numG_zero (g : Nat → BitVec 8) : numG g 4 = 0 ↔ (g 0 = 0#8 ∧ g 1 = 0#8 ∧ g 2 = 0#8 ∧ g 3 = 0#8) := by
  have z : ∀ x : BitVec 8, x = 0#8 ↔ x.toNat = 0 := fun x => ⟨fun h => by rw [h]; rfl, fun h => by apply BitVec.eq_of_toNat_eq; rw [h]; rfl⟩
  rw [z, z, z, z]
  simp only [numG]
  omega
theorem sv_iff (f : Nat → BitVec 8) (len : Nat) : sv f len ↔ (128 ≤ (f 0).toNat ∧ 5 ≤ len ∧ numG (fun i => f (1 + i)) 4 = 0) := by
  unfold sv
  rw [bit128, numG_zero]
  constructor
  · rintro ⟨h1, h2, h3, h4, h5, h6⟩; exact ⟨by omega, h2, h3, h4, h5, h6⟩
  · rintro ⟨h1, h2, h3, h4, h5, h6⟩; exact ⟨by omega, h2, h3, h4, h5, h6⟩
theorem nmOut_ok {f : Nat → BitVec 8} {p len : Nat} (h : nmR (len - p) (f p).toNat = 0) : nmOut (fun i => f (p + i)) (len - p) = .tuple #[.string (strOf (fun i => f (p + 1 + i)) (f p).toNat), .string (strOf (fun i => f (p + 1 + (f p).toNat + i)) (len - (p + 1 + (f p).toNat))), .int .i64 0] := by
  unfold nmOut
  rw [show (fun i => f (p + i)) 0 = f p from rfl, if_pos h]
  simp only [Nat.add_assoc]
  rw [show len - p - (1 + (f p).toNat) = len - (p + (1 + (f p).toNat)) by omega]
theorem nmOut_bad {f : Nat → BitVec 8} {p len : Nat} {r : Int} (h : nmR (len - p) (f p).toNat = r) (hr : ¬ r = 0) : nmOut (fun i => f (p + i)) (len - p) = .tuple #[.string ⟨#[]⟩, .string ⟨#[]⟩, .int .i64 r] := by
  unfold nmOut
  rw [show (fun i => f (p + i)) 0 = f p from rfl, h, if_neg hr]
/-- Where DocGet stands: the result's row, 'none'. -/
structure DSt (w0 : World) (n : Nat) (w : World) : Prop where
  rs : w.heap[n]? = some (.cells (hdC 0 0 ⟨#[]⟩ ⟨#[]⟩ ⟨#[]⟩ 0 0 0 false (.slice none 0 0)) 63 (0, 0))
  nn : w.heap[n + 1]? = some (.cells (hdC 0 0 ⟨#[]⟩ ⟨#[]⟩ ⟨#[]⟩ 0 0 0 false (.slice none 0 0)) 63 (0, 0))
  bl : Below n w0 w
theorem DSt.later {w0 w w' : World} {n : Nat} (h : DSt w0 n w) (hb : Below w.heap.size w w') : DSt w0 n w' :=
  ⟨(hb.block _ (lt_row h.rs)).trans h.rs, (hb.block _ (lt_row h.nn)).trans h.nn, h.bl.trans (hb.mono (by have := lt_row h.rs; omega))⟩
theorem getP_long {f : Nat → BitVec 8} {len : Nat} {own : Int} (ho : 0 ≤ own ∧ own ≤ 20) (hl : len ≠ 0) (hF : 128 ≤ (f 0).toNat) (hn : 192 ≤ (f 0).toNat ∨ (5 ≤ len ∧ numG (fun i => f (1 + i)) 4 = 0)) : getP f len own = long f len := by
  unfold getP
  rw [if_neg (by omega), if_neg hl, if_neg, if_neg (fun h => by have := (bit128 _).1 h; omega)]
  rintro ⟨h1, h2⟩
  rw [bit64] at h1
  rw [sv_iff] at h2
  omega
end Go.Proofs.YtcgbhcmgddgheaaDoor
namespace Go.Proofs.YtcgbhcmgddgheaaDoor
open Go Go.RowKit Go.BigFrame
set_option linter.unusedSimpArgs false
set_option linter.unusedVariables false
set_option maxRecDepth 100000
/-- Where DocGet stands behind its header's making: that, in block H. -/
structure HSt (w0 : World) (n H : Nat) (k v : Int) (D S T : ByteArray) (l : Int) (L : Value) (w : World) : Prop where
  d : DSt w0 n w
  hh : n + 1 < H
  hd : w.heap[H]? = some (.cells (hdC k v D S T l 0 0 false L) 63 (0, 0))
section
variable {w0 w w' : World} {n H : Nat} {k v : Int} {D S T : ByteArray} {l : Int} {L : Value}
theorem HSt.later (h : HSt w0 n H k v D S T l L w) (hb : Below w.heap.size w w') : HSt w0 n H k v D S T l L w' := ⟨h.d.later hb, h.hh, (hb.block _ (lt_row h.hd)).trans h.hd⟩
theorem HSt.put (h : HSt w0 n H k v D S T l L w) (j : Nat) (x : Value) {k' v' : Int} {D' S' T' : ByteArray} {l' : Int} {L' : Value} (hx : (hdC k v D S T l 0 0 false L).setIfInBounds j x = hdC k' v' D' S' T' l' 0 0 false L') :
    HSt w0 n H k' v' D' S' T' l' L' (w.setCell ⟨H, j, none⟩ x) := by
  have hh := h.hh
  have st := rowSet_cell w H j _ _ x h.hd
  rw [hx] at st
  exact ⟨⟨st.keep (by omega) h.d.rs, st.keep (by omega) h.d.nn, h.d.bl.trans (st.below n (by omega))⟩, hh, st.row⟩
theorem HSt.free (h : HSt w0 n H k v D S T l L w) (j : Nat) : w.frozen? ⟨H, j, none⟩ = false := frozen_of_row _ _ _ _ _ h.hd
theorem HSt.cells (h : HSt w0 n H k v D S T l L w) : w.cell? ⟨H, 0, none⟩ = some (.int .i64 k) ∧ w.cell? ⟨H, 1, none⟩ = some (.int .i64 v) ∧ w.cell? ⟨H, 2, none⟩ = some (.string D) ∧ w.cell? ⟨H, 3, none⟩ = some (.string S) ∧ w.cell? ⟨H, 4, none⟩ = some (.string T) ∧ w.cell? ⟨H, 5, none⟩ = some (.int .i64 l) := by
  obtain ⟨c0, c1, c2, c3, c4, c5, _, _, _, _⟩ := cells10 h.hd
  exact ⟨c0, c1, c2, c3, c4, c5⟩
theorem HSt.made {k v : Int} (h : DSt w0 n w) (hw : w' = w.alloc (.cells (hdC k v ⟨#[]⟩ ⟨#[]⟩ ⟨#[]⟩ 0 0 0 false (.slice none 0 0)) 63)) : HSt w0 n w.heap.size k v ⟨#[]⟩ ⟨#[]⟩ ⟨#[]⟩ 0 (.slice none 0 0) w' := by
  subst hw
  exact ⟨h.later ((Below.refl _ _).alloc (Nat.le_refl _) _), lt_row h.nn, heap_alloc_last _ _⟩
end
end Go.Proofs.YtcgbhcmgddgheaaDoor
namespace Go.Proofs.YtcgbhcmgddgheaaDoor
open Go Go.RowKit Go.BigFrame
set_option linter.unusedSimpArgs false
set_option linter.unusedVariables false
set_option maxRecDepth 100000
theorem HSt.list {w0 w : World} {n H : Nat} {k v : Int} {D S T : ByteArray} {l : Int} {L : Value} (h : HSt w0 n H k v D S T l L w) : w.cell? ⟨H, 9, none⟩ = some L := by
  obtain ⟨_, _, _, _, _, _, _, _, _, c9⟩ := cells10 h.hd
  exact c9
theorem run_head_str (f : Nat → BitVec 8) (n k : Nat) (hk : k ≤ n) (w : World) : (Instr.sliceAt 9 (.string (strOf f n)) none (some (.int .i64 (k : Int))) none).run Tryd.prog w = .ok (.string (strOf f k)) w := by
  have hu : Tryd.prog.underlying 9 = some .string := by kernel_rfl
  have hc : (strOf f n).extract 0 k = strOf f k := by
    rw [str_cut f 0 k n (Nat.zero_le _) hk]
    simp
  rw [← hc]
  have h0 : (0 : Int) ≤ (k : Int) := by omega
  have h4 : (k : Int) ≤ ((strOf f n).size : Int) := by rw [strOf_size]; omega
  simp [Instr.sliceAt, Instr.slice, Instr.sliceBounds, run_underlying hu, go_sem, h0, h4, Sem.run_bind]
theorem vsG_succ (f : Nat → BitVec 8) (p j : Nat) : vsG f p (j + 1) = vsG f p j ++ [(numG (fun i => f (p + 4 * j + i)) 4 : Int)] := by
  unfold vsG
  rw [List.range_succ, List.map_append]
  rfl
theorem src_int_drew (w : World) (x : Int) : Src Tryd.prog 1 56 (.slice (some ⟨w.heap.size, 0, none⟩) 1 1) 1 (cellsI [x]) (w.alloc (.cells #[.int .i64 x] 3)).drew :=
  src_ints [x] w.heap.size 0 1 _ (fun i y hy => by
    rw [cell_of_row _ _ _ _ _ _ (show (w.alloc (.cells #[.int .i64 x] 3)).drew.heap[w.heap.size]? = _ from heap_alloc_last w _)]
    cases i with
    | zero => simpa using hy
    | succ i => simp at hy)
def szOf : Value → Nat
  | .string s => s.size
  | _ => 0
theorem OwnI.listIn {B : Nat} {aL : Option Addr} {n cL : Nat} {G : List Int} {w : World} (h : OwnI B (.slice aL n cL) G w) : n = G.length ∧ IntsIn w (.slice aL G.length cL) G ∧ ∀ y, aL = some y → B ≤ y.block := by
  rcases h.row with ⟨e, rfl⟩ | ⟨g, o, cap, cur, e, hB, hg, h1, h2, h3, h4⟩
  · injection e with e1 e2 e3
    subst e1 e2 e3
    exact ⟨rfl, ints_none w, fun y hy => by cases hy⟩
  · injection e with e1 e2 e3
    subst e1 e2 e3
    exact ⟨rfl, ⟨_, _, rfl, ⟨h1, h2⟩, fun i hi => ⟨g, o, rfl, lt_row hg, by rw [cell_of_row _ _ _ _ _ _ hg]; exact h4 i _ (List.getElem?_eq_getElem hi)⟩⟩, fun y hy => by injection hy with hy; subst hy; exact hB⟩
theorem OwnI.later' {B : Nat} {v : Value} {G : List Int} {w w' : World} (h : OwnI B v G w) (hb : Below w.heap.size w w') : OwnI B v G w' := h.kept hb.size (fun g _ hl => hb.block g hl)
/-- What append leaves of the header's row. -/
theorem HSt.grew {w0 w w' : World} {n H B : Nat} {k v : Int} {D S T : ByteArray} {l : Int} {L x x' : Value} {G : List Int} (h : HSt w0 n H k v D S T l L w) (hH : H < B) (ho : OwnI B x G w) (g : GrewI w w' x x') : HSt w0 n H k v D S T l L w' := by
  have hh := h.hh
  have ne : ∀ q, q < B → x.ownBlock ≠ some q := fun q hq e => by have := (ho.lt e).1; omega
  refine ⟨⟨(g.block n (lt_row h.d.rs) (ne n (by omega))).trans h.d.rs, (g.block (n + 1) (lt_row h.d.nn) (ne (n + 1) (by omega))).trans h.d.nn, ?_⟩, hh, (g.block H (lt_row h.hd) (ne H hH)).trans h.hd⟩
  exact h.d.bl.trans (g.below n (by have := lt_row h.hd; omega) (fun q hq => by have := (ho.lt hq).1; omega))
end Go.Proofs.YtcgbhcmgddgheaaDoor
