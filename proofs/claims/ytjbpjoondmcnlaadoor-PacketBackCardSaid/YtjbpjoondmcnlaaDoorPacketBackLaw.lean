/-
  What is put is got, but for the number; the packet's end is Length bytes behind where its number begins, at the commit of COMMIT; the tables of math/bits hold what the program's text lays.
-/
import Derived.Test.YtjbpjoondmcnlaaDoorRows
import Derived.Test.YtjbpjoondmcnlaaDoorCards
import Derived.Test.YtjbpjoondmcnlaaDoorTie
import Derived.Test.YtjbpjoondmcnlaaDoorDoor
import Derived.Test.YtjbpjoondmcnlaaDoorPbZ
import Derived.Test.YtjbpjoondmcnlaaDoorOpenB
import Derived.WalkKit
import Derived.ProofKit
import Derived.OpenShut
import Derived.ShutString
import Derived.ChangeOld
import Derived.Below
import Derived.Deep.DeepCutAuto
import Derived.Deep.Upon
import Derived.Deep.AppendSrc
import Derived.SevenTiedAt
import Derived.LaidMore
import Derived.SizedLaws
import Derived.Lib.SmallJoins
namespace Go.Proofs.YtjbpjoondmcnlaaDoor.packetBack
open Go Go.ChangeShapes Go.WideShapes Go.ChangeAt Go.RowKit Go.BigFrame
set_option linter.unusedVariables false
set_option maxRecDepth 100000 in
theorem law_any (k v l N z : Int) (D S : ByteArray) (tf : Nat → BitVec 8) (nt : Nat) (ph : Bool) (a : Option Addr) (c : Nat) (G : List Int) (w : World) (hL : IntsIn w (.slice a G.length c) G) (hG : G.length ≤ 20000000000000)
    (ra : Option Addr) (rl rc : Nat) (rf : Nat → BitVec 8) (hR : BytesIn w ra rl rf) (hrc : rl ≤ rc) (hrm : rc ≤ maxLen) (tab : Tab w) :
    Calls Tryd.prog 11 #[.agg (hdC k v D S (strOf tf nt) l N z ph (.slice a G.length c)), .slice ra rl rc] w fun e w' => e = .returned (.bool true) ∧ Below w.heap.size w w' := by
  by_cases hr : inB G D.size S.size nt v l N z ∧ inF k v l N z S.size nt G.length ph
  · obtain ⟨zn, rfl⟩ : ∃ zn : Nat, z = (zn : Int) := ⟨z.toNat, by have := hr.1.2.2.2.2.2.2.2.2; omega⟩
    obtain ⟨hin, hf⟩ := hr
    have hk := kind_of hf
    by_cases hk3 : k < 3
    · by_cases hl : l ≤ (zn : Int) + (min rl 2000 : Nat)
      · exact back_A k v l N zn D S tf nt ph a c G w hL hG ra rl rc rf hR hrc hrm tab hin hf hk3 (by omega) hl
      · exact back_B k v l N zn D S tf nt ph a c G w hL hG ra rl rc rf hR hrc hrm tab hin hf hk3 hl
    · obtain rfl | rfl | rfl : k = 3 ∨ k = 4 ∨ k = 5 := by omega
      · exact back_D3 v l N zn D S tf nt ph a c G w hL hG ra rl rc rf hR hrc hrm tab hin hf
      · exact back_C v l N zn D S tf nt ph a c G w hL hG ra rl rc rf hR hrc hrm tab hin hf
      · exact back_D5 v l N zn D S tf nt ph a c G w hL hG ra rl rc rf hR hrc hrm tab hin hf
  · exact back_X k v l N z D S tf nt ph a c G w hL hG ra rl rc rf hR hrc hrm tab hr
set_option maxRecDepth 100000 in
theorem walk {H : Type} {enc : TypeId × Value → H} (w : World) (base : Nat) (v0 v1 : Value) (d0 d1 : DataW H) (p0 p1 : List MemPlace)
    (k0 : Value.okWide Tryd.prog w .any base 63 v0) (k1 : Value.okWide Tryd.prog w .any base 26 v1)
    (h0 : DataW.Trod enc Tryd.prog w 0 (fun _ => true) true 63 v0 d0 p0) (h1 : DataW.Trod enc Tryd.prog w 0 (fun _ => true) true 26 v1 d1 p1) (z0 : ∀ n ∈ DataW.weights Tryd.prog 63 d0, n ≤ reachBytes) (z1 : ∀ n ∈ DataW.weights Tryd.prog 26 d1, n ≤ reachBytes) (tab : Tab w) :
    Calls Tryd.prog 11 #[v0, v1] w fun e w' => e = .returned (.bool true) ∧ Below w.heap.size w w' := by
  obtain ⟨k, vv, l, N, z, D, S, tf, nt, ph, a, c, G, rfl, hI, hG⟩ := open_header k0 h0 z0
  obtain ⟨ra, rl, rc, rf, rfl, hr, hc, hcm⟩ := open_bytes k1 h1
  exact law_any k vv l N z D S tf nt ph a c G w hI hG ra rl rc rf hr hc hcm tab
set_option maxRecDepth 100000 in
theorem lifted (os : Os) (started : os.Started) (H : Type) (enc : TypeId × Value → H) :
    ReturnsInHanded {} Tryd.checked os 11 .any (fun w args => (Rows.packetBackSpec.pre enc Tryd.prog Tryd.f11 [] false w args ∧ laidMetH Tryd.prog laids w) ∧ sizedMet enc Tryd.prog Tryd.f11 (OpenSpec.ofChange Rows.packetBackSpec) false w args)
      (Rows.packetBackSpec.post enc Tryd.prog Tryd.f11 false true false false) := by
  refine returnsInHanded_of_change_and (C := Tryd.checked) (X := fun w _ => laidMetH Tryd.prog laids w) (fun _ _ _ hh h => h.of_heap hh) own started (by kernel_rfl) Tryd.func11
    (ChangeSpec.witness_shaped (enc := enc) (C := Tryd.checked) (os := os) (X := fun w _ => laidMetH Tryd.prog laids w) false (World.doorLaid Tryd.prog 19 os) #[.agg #[.int .i64 0, .int .i64 0, .string ⟨#[]⟩, .string ⟨#[]⟩, .string ⟨#[]⟩, .int .i64 0, .int .i64 0, .int .i64 0, .bool false, .slice none 0 0], .slice none 0 0] 8 rfl (World.shaped_of_RefB (by kernel_rfl) (by kernel_rfl)) (by kernel_rfl) (by kernel_rfl) (by kernel_rfl) (door_met os _)) ?_
  intro W base args ds gs before hval0 hW _ hsz0 hL _
  have hval : ∀ (j : Nat) t v, Tryd.f11.params[j]? = some t → args[j]? = some v → Value.okWide Tryd.prog W .any base t v := hval0
  have hW' := hW
  obtain ⟨p, q, hA0, hV, rfl, hfz, hnd⟩ := hW
  have hA : DataW.TrodAll enc Tryd.prog W 0 (fun _ => true) true Tryd.f11.params.toList args.toList ds p := hA0
  rw [Tryd.params11] at hA hval
  obtain ⟨v0, vs0, d0, ds0, p0, q0, hargs, rfl, rfl, h0, r0⟩ := trodAll_cons hA
  obtain ⟨v1, vs1, d1, ds1, p1, q1, rfl, rfl, rfl, h1, r1⟩ := trodAll_cons r0
  obtain ⟨rfl, rfl, rfl⟩ := trodAll_nil r1
  obtain rfl : args = #[v0, v1] := by cases args; simp_all
  obtain ⟨rfl, rfl⟩ := trodVars_none hV
  have k0 := h0
  have lt0 : ∀ x ∈ p0, x.block < W.heap.size := by obtain ⟨m, hm⟩ := k0; exact DataW.trod_lt m _ _ _ hm
  have k1 := h1
  have lt1 : ∀ x ∈ p1, x.block < W.heap.size := by obtain ⟨m, hm⟩ := k1; exact DataW.trod_lt m _ _ _ hm
  have z0 : ∀ n ∈ DataW.weights Tryd.prog 63 d0, n ≤ reachBytes := fun n hn => by
    have h1 := List.all_eq_true.1 hsz0 n (DataW.weights_mem_each (j := 0) (by rw [Tryd.params11]; rfl) rfl n hn)
    simpa using h1
  have z1 : ∀ n ∈ DataW.weights Tryd.prog 26 d1, n ≤ reachBytes := fun n hn => by
    have h1 := List.all_eq_true.1 hsz0 n (DataW.weights_mem_each (j := 1) (by rw [Tryd.params11]; rfl) rfl n hn)
    simpa using h1
  clear hA0 hval0
  refine (walk W base v0 v1 d0 d1 p0 p1 (hval 0 63 v0 rfl rfl) (hval 1 26 v1 rfl rfl) k0 k1 z0 z1 (tab_of_laid hL)).mono fun e W' ⟨he, bel⟩ => ?_
  subst he
  exact ⟨_, rfl, _, _, _, [], _, [], hW', trodAll_mk1 (shut_bool Tryd.underlying4 _), (trodAll_cons_mk (Below.trod laidOut (by kernel_rfl) (of_decide_eq_true (by kernel_rfl)) k0 bel lt0) (trodAll_cons_mk (Below.trod laidOut (by kernel_rfl) (of_decide_eq_true (by kernel_rfl)) k1 bel lt1) trodAll_mk0)), rfl, bel.frame _, fun h => by cases h⟩
theorem over : Rows.PacketBackSaid :=
  OpenClaim.holds_of_wide 11 Tryd.f11 rfl rfl rfl rfl rfl rfl rfl ⟨rfl, rfl, rfl, rfl, rfl⟩ rfl rfl rfl rfl rfl (by kernel_rfl) Tryd.func11 (by kernel_rfl)
    (of_decide_eq_true (by kernel_rfl)) (by unfold Func.isWrapper; first | (rw [if_pos (by decide +kernel)]; kernel_rfl) | (rw [if_neg (by decide +kernel)]; exact ⟨rfl, rfl⟩))
    (fun os started H enc _ => lifted os started H enc)
theorem proved : Rows.PacketBackCardSaid :=
  Claim7.holds_tied_plain_at .later [] [.data, .data] true (true, "e64395a9766b199dc9aae543bb771f0a2c891cedd0dc0b094b7c817878d5574e") false
    over (fun _ h => by cases h) (by kernel_rfl) (fun _ h => by cases h) packetBack_row_tie rfl ⟨rfl, rfl⟩ (by kernel_rfl) rfl
    (fun f fn hf hfn => by
      obtain rfl : f = 11 := Option.some.inj ((show Tryd.prog.funcNamed "rhyne/rhynelaw08.PacketBack" = some 11 by kernel_rfl).symm.trans hf) |>.symm
      obtain rfl : fn = Tryd.f11 := (Option.some.inj (Tryd.func11.symm.trans hfn)).symm
      exact ⟨by kernel_rfl, fun j t ht => by
        rw [Tryd.params11] at ht
        have hm : t ∈ [63, 26] := by simpa using Array.mem_of_getElem? ht
        have hall : ([63, 26].all fun u => !Tryd.prog.wantsStandIn u) = true := by kernel_rfl
        exact (show Tryd.prog.wantsStandIn t = false by simpa using List.all_eq_true.1 hall t hm)⟩)
    (by kernel_rfl)
end Go.Proofs.YtjbpjoondmcnlaaDoor.packetBack
