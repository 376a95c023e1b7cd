/-
  Of three names the order goes on, and what lies between a name and one below it is below it, where what comes in is of bulk at most the bound, at the commit of COMMIT; the two tables of unicode/utf8 hold what the library's text lays.
-/
import Derived.Test.YtddpfbeclmgndaaDoorRows
import Derived.Test.YtddpfbeclmgndaaDoorCards
import Derived.Test.YtddpfbeclmgndaaDoorTie
import Derived.Test.YtddpfbeclmgndaaDoorNmDoor
import Derived.Test.YtddpfbeclmgndaaDoorNnB
import Derived.Test.YtddpfbeclmgndaaDoorNnF
import Derived.Test.YtddpfbeclmgndaaDoorOpenB
import Derived.Test.YtddpfbeclmgndaaDoorOpen
import Derived.Test.YtddpfbeclmgndaaDoorEq
import Derived.WalkKit
import Derived.ProofKit
import Derived.OpenShut
import Derived.ShutString
import Derived.ChangeOld
import Derived.Below
import Derived.Deep.DeepCutAuto
import Derived.Deep.Upon
import Derived.Deep.AppendSrc
import Derived.SevenTiedAt
import Derived.LaidMore
import Derived.SizedLaws
import Derived.Lib.SmallJoins
import Derived.Deep.DeepHandedRow
namespace Go.Proofs.YtddpfbeclmgndaaDoor.nameThree
open Go Go.ChangeShapes Go.WideShapes Go.ChangeAt Go.RowKit Go.BigFrame
set_option linter.unusedVariables false
theorem less_trans {A B C : List (BitVec 8)} (h1 : lessF A B = true) (h2 : lessF B C = true) : lessF A C = true := by
  unfold lessF at h1 h2 ⊢
  simp only [Bool.and_eq_true] at h1 h2 ⊢
  exact ⟨⟨h1.1.1, h2.1.2⟩, lr_trans _ _ _ h1.2 h2.2⟩
theorem less_between {A B C : List (BitVec 8)} (h0 : underF C A = true) (h1 : lessF A B = true) (h2 : lessF B C = true) : underF B A = true := by
  unfold lessF at h1 h2
  unfold underF at h0 ⊢
  simp only [Bool.and_eq_true, decide_eq_true_eq] at h0 h1 h2 ⊢
  refine ⟨⟨h1.1.2, h1.1.1⟩, ?_⟩
  obtain ⟨ys, hy⟩ := h0.2
  have h3 := h2.2
  rw [← hy, List.reverse_append] at h3
  exact under_rev.2 (lr_between _ _ _ h1.2 h3)
set_option maxHeartbeats 4000000 in
set_option maxRecDepth 100000 in
theorem three_a (S T X : ByteArray) (r2 r3 x y z u v : Bool) (w : World)
    (R1 : Hid (∀ w, Calls Tryd.prog 24 #[.string S] w fun e w' => e = .returned (.bool false) ∧ Below w.heap.size w w'))
    (R2 : Hid (∀ w, Calls Tryd.prog 24 #[.string T] w fun e w' => e = .returned (.bool r2) ∧ Below w.heap.size w w'))
    (R3 : Hid (∀ w, Calls Tryd.prog 24 #[.string X] w fun e w' => e = .returned (.bool r3) ∧ Below w.heap.size w w'))
    (L1 : Hid (∀ w, Calls Tryd.prog 20 #[.string S, .string T] w fun e w' => e = .returned (.bool x) ∧ Below w.heap.size w w'))
    (L2 : Hid (∀ w, Calls Tryd.prog 20 #[.string T, .string X] w fun e w' => e = .returned (.bool y) ∧ Below w.heap.size w w'))
    (L3 : Hid (∀ w, Calls Tryd.prog 20 #[.string S, .string X] w fun e w' => e = .returned (.bool z) ∧ Below w.heap.size w w'))
    (U1 : Hid (∀ w, Calls Tryd.prog 22 #[.string X, .string S] w fun e w' => e = .returned (.bool u) ∧ Below w.heap.size w w'))
    (U2 : Hid (∀ w, Calls Tryd.prog 22 #[.string T, .string S] w fun e w' => e = .returned (.bool v) ∧ Below w.heap.size w w')) :
    Calls Tryd.prog 6 #[.string S, .string T, .string X] w fun e w' => e = .returned (.bool true) ∧ Below w.heap.size w w' := by
  have NA := Lib.hid named_any
  have BB := Lib.hid (Below.refl w.heap.size w)
  have M1 := L1
  have M2 := L2
  go_enter Tryd.func6, Tryd.ntmps6
  go_wp2_with (first
    | (go_at_call 10; refine (NA.out _).mono ?_; rintro e w' ⟨rfl, B⟩; replace BB := Lib.hid (BB.out.trans (B.mono BB.out.size)); clear B)
    | (go_at_call 24; refine (R1.out _).mono ?_; clear R1; rintro e w' ⟨rfl, B⟩; replace BB := Lib.hid (BB.out.trans (B.mono BB.out.size)); clear B))
  go_ret
  exact ⟨rfl, BB.out⟩
set_option maxHeartbeats 4000000 in
set_option maxRecDepth 100000 in
theorem three_b (S T X : ByteArray) (r3 x y z u v : Bool) (w : World)
    (R1 : Hid (∀ w, Calls Tryd.prog 24 #[.string S] w fun e w' => e = .returned (.bool true) ∧ Below w.heap.size w w'))
    (R2 : Hid (∀ w, Calls Tryd.prog 24 #[.string T] w fun e w' => e = .returned (.bool false) ∧ Below w.heap.size w w'))
    (R3 : Hid (∀ w, Calls Tryd.prog 24 #[.string X] w fun e w' => e = .returned (.bool r3) ∧ Below w.heap.size w w'))
    (L1 : Hid (∀ w, Calls Tryd.prog 20 #[.string S, .string T] w fun e w' => e = .returned (.bool x) ∧ Below w.heap.size w w'))
    (L2 : Hid (∀ w, Calls Tryd.prog 20 #[.string T, .string X] w fun e w' => e = .returned (.bool y) ∧ Below w.heap.size w w'))
    (L3 : Hid (∀ w, Calls Tryd.prog 20 #[.string S, .string X] w fun e w' => e = .returned (.bool z) ∧ Below w.heap.size w w'))
    (U1 : Hid (∀ w, Calls Tryd.prog 22 #[.string X, .string S] w fun e w' => e = .returned (.bool u) ∧ Below w.heap.size w w'))
    (U2 : Hid (∀ w, Calls Tryd.prog 22 #[.string T, .string S] w fun e w' => e = .returned (.bool v) ∧ Below w.heap.size w w')) :
    Calls Tryd.prog 6 #[.string S, .string T, .string X] w fun e w' => e = .returned (.bool true) ∧ Below w.heap.size w w' := by
  have NA := Lib.hid named_any
  have BB := Lib.hid (Below.refl w.heap.size w)
  have M1 := L1
  have M2 := L2
  go_enter Tryd.func6, Tryd.ntmps6
  go_wp2_with (first
    | (go_at_call 10; refine (NA.out _).mono ?_; rintro e w' ⟨rfl, B⟩; replace BB := Lib.hid (BB.out.trans (B.mono BB.out.size)); clear B)
    | (go_at_call 24; refine (R1.out _).mono ?_; clear R1; rintro e w' ⟨rfl, B⟩; replace BB := Lib.hid (BB.out.trans (B.mono BB.out.size)); clear B)
    | (go_at_call 24; refine (R2.out _).mono ?_; clear R2; rintro e w' ⟨rfl, B⟩; replace BB := Lib.hid (BB.out.trans (B.mono BB.out.size)); clear B))
  go_ret
  exact ⟨rfl, BB.out⟩
set_option maxHeartbeats 4000000 in
set_option maxRecDepth 100000 in
theorem three_c (S T X : ByteArray) (x y z u v : Bool) (w : World)
    (R1 : Hid (∀ w, Calls Tryd.prog 24 #[.string S] w fun e w' => e = .returned (.bool true) ∧ Below w.heap.size w w'))
    (R2 : Hid (∀ w, Calls Tryd.prog 24 #[.string T] w fun e w' => e = .returned (.bool true) ∧ Below w.heap.size w w'))
    (R3 : Hid (∀ w, Calls Tryd.prog 24 #[.string X] w fun e w' => e = .returned (.bool false) ∧ Below w.heap.size w w'))
    (L1 : Hid (∀ w, Calls Tryd.prog 20 #[.string S, .string T] w fun e w' => e = .returned (.bool x) ∧ Below w.heap.size w w'))
    (L2 : Hid (∀ w, Calls Tryd.prog 20 #[.string T, .string X] w fun e w' => e = .returned (.bool y) ∧ Below w.heap.size w w'))
    (L3 : Hid (∀ w, Calls Tryd.prog 20 #[.string S, .string X] w fun e w' => e = .returned (.bool z) ∧ Below w.heap.size w w'))
    (U1 : Hid (∀ w, Calls Tryd.prog 22 #[.string X, .string S] w fun e w' => e = .returned (.bool u) ∧ Below w.heap.size w w'))
    (U2 : Hid (∀ w, Calls Tryd.prog 22 #[.string T, .string S] w fun e w' => e = .returned (.bool v) ∧ Below w.heap.size w w')) :
    Calls Tryd.prog 6 #[.string S, .string T, .string X] w fun e w' => e = .returned (.bool true) ∧ Below w.heap.size w w' := by
  have NA := Lib.hid named_any
  have BB := Lib.hid (Below.refl w.heap.size w)
  have M1 := L1
  have M2 := L2
  go_enter Tryd.func6, Tryd.ntmps6
  go_wp2_with (first
    | (go_at_call 10; refine (NA.out _).mono ?_; rintro e w' ⟨rfl, B⟩; replace BB := Lib.hid (BB.out.trans (B.mono BB.out.size)); clear B)
    | (go_at_call 24; refine (R1.out _).mono ?_; clear R1; rintro e w' ⟨rfl, B⟩; replace BB := Lib.hid (BB.out.trans (B.mono BB.out.size)); clear B)
    | (go_at_call 24; refine (R2.out _).mono ?_; clear R2; rintro e w' ⟨rfl, B⟩; replace BB := Lib.hid (BB.out.trans (B.mono BB.out.size)); clear B)
    | (go_at_call 24; refine (R3.out _).mono ?_; clear R3; rintro e w' ⟨rfl, B⟩; replace BB := Lib.hid (BB.out.trans (B.mono BB.out.size)); clear B))
  go_ret
  exact ⟨rfl, BB.out⟩
set_option maxHeartbeats 4000000 in
set_option maxRecDepth 100000 in
theorem three_d (S T X : ByteArray) (y z v : Bool) (w : World)
    (R1 : Hid (∀ w, Calls Tryd.prog 24 #[.string S] w fun e w' => e = .returned (.bool true) ∧ Below w.heap.size w w'))
    (R2 : Hid (∀ w, Calls Tryd.prog 24 #[.string T] w fun e w' => e = .returned (.bool true) ∧ Below w.heap.size w w'))
    (R3 : Hid (∀ w, Calls Tryd.prog 24 #[.string X] w fun e w' => e = .returned (.bool true) ∧ Below w.heap.size w w'))
    (L1 : Hid (∀ w, Calls Tryd.prog 20 #[.string S, .string T] w fun e w' => e = .returned (.bool false) ∧ Below w.heap.size w w'))
    (L2 : Hid (∀ w, Calls Tryd.prog 20 #[.string T, .string X] w fun e w' => e = .returned (.bool y) ∧ Below w.heap.size w w'))
    (L3 : Hid (∀ w, Calls Tryd.prog 20 #[.string S, .string X] w fun e w' => e = .returned (.bool z) ∧ Below w.heap.size w w'))
    (U1 : Hid (∀ w, Calls Tryd.prog 22 #[.string X, .string S] w fun e w' => e = .returned (.bool false) ∧ Below w.heap.size w w'))
    (U2 : Hid (∀ w, Calls Tryd.prog 22 #[.string T, .string S] w fun e w' => e = .returned (.bool v) ∧ Below w.heap.size w w')) :
    Calls Tryd.prog 6 #[.string S, .string T, .string X] w fun e w' => e = .returned (.bool true) ∧ Below w.heap.size w w' := by
  have NA := Lib.hid named_any
  have BB := Lib.hid (Below.refl w.heap.size w)
  have M1 := L1
  have M2 := L2
  go_enter Tryd.func6, Tryd.ntmps6
  go_wp2_with (first
    | (go_at_call 10; refine (NA.out _).mono ?_; rintro e w' ⟨rfl, B⟩; replace BB := Lib.hid (BB.out.trans (B.mono BB.out.size)); clear B)
    | (go_at_call 24; refine (R1.out _).mono ?_; clear R1; rintro e w' ⟨rfl, B⟩; replace BB := Lib.hid (BB.out.trans (B.mono BB.out.size)); clear B)
    | (go_at_call 24; refine (R2.out _).mono ?_; clear R2; rintro e w' ⟨rfl, B⟩; replace BB := Lib.hid (BB.out.trans (B.mono BB.out.size)); clear B)
    | (go_at_call 24; refine (R3.out _).mono ?_; clear R3; rintro e w' ⟨rfl, B⟩; replace BB := Lib.hid (BB.out.trans (B.mono BB.out.size)); clear B)
    | (go_at_call 20; refine (L1.out _).mono ?_; clear L1; rintro e w' ⟨rfl, B⟩; replace BB := Lib.hid (BB.out.trans (B.mono BB.out.size)); clear B)
    | (go_at_call 22; refine (U1.out _).mono ?_; clear U1; rintro e w' ⟨rfl, B⟩; replace BB := Lib.hid (BB.out.trans (B.mono BB.out.size)); clear B))
  go_ret
  exact ⟨rfl, BB.out⟩
set_option maxHeartbeats 4000000 in
set_option maxRecDepth 100000 in
theorem three_e (S T X : ByteArray) (y z v : Bool) (w : World)
    (R1 : Hid (∀ w, Calls Tryd.prog 24 #[.string S] w fun e w' => e = .returned (.bool true) ∧ Below w.heap.size w w'))
    (R2 : Hid (∀ w, Calls Tryd.prog 24 #[.string T] w fun e w' => e = .returned (.bool true) ∧ Below w.heap.size w w'))
    (R3 : Hid (∀ w, Calls Tryd.prog 24 #[.string X] w fun e w' => e = .returned (.bool true) ∧ Below w.heap.size w w'))
    (L1 : Hid (∀ w, Calls Tryd.prog 20 #[.string S, .string T] w fun e w' => e = .returned (.bool false) ∧ Below w.heap.size w w'))
    (L2 : Hid (∀ w, Calls Tryd.prog 20 #[.string T, .string X] w fun e w' => e = .returned (.bool y) ∧ Below w.heap.size w w'))
    (L3 : Hid (∀ w, Calls Tryd.prog 20 #[.string S, .string X] w fun e w' => e = .returned (.bool z) ∧ Below w.heap.size w w'))
    (U1 : Hid (∀ w, Calls Tryd.prog 22 #[.string X, .string S] w fun e w' => e = .returned (.bool true) ∧ Below w.heap.size w w'))
    (U2 : Hid (∀ w, Calls Tryd.prog 22 #[.string T, .string S] w fun e w' => e = .returned (.bool v) ∧ Below w.heap.size w w')) :
    Calls Tryd.prog 6 #[.string S, .string T, .string X] w fun e w' => e = .returned (.bool true) ∧ Below w.heap.size w w' := by
  have NA := Lib.hid named_any
  have BB := Lib.hid (Below.refl w.heap.size w)
  have M1 := L1
  have M2 := L2
  go_enter Tryd.func6, Tryd.ntmps6
  go_wp2_with (first
    | (go_at_call 10; refine (NA.out _).mono ?_; rintro e w' ⟨rfl, B⟩; replace BB := Lib.hid (BB.out.trans (B.mono BB.out.size)); clear B)
    | (go_at_call 24; refine (R1.out _).mono ?_; clear R1; rintro e w' ⟨rfl, B⟩; replace BB := Lib.hid (BB.out.trans (B.mono BB.out.size)); clear B)
    | (go_at_call 24; refine (R2.out _).mono ?_; clear R2; rintro e w' ⟨rfl, B⟩; replace BB := Lib.hid (BB.out.trans (B.mono BB.out.size)); clear B)
    | (go_at_call 24; refine (R3.out _).mono ?_; clear R3; rintro e w' ⟨rfl, B⟩; replace BB := Lib.hid (BB.out.trans (B.mono BB.out.size)); clear B)
    | (go_at_call 20; refine (L1.out _).mono ?_; clear L1; rintro e w' ⟨rfl, B⟩; replace BB := Lib.hid (BB.out.trans (B.mono BB.out.size)); clear B)
    | (go_at_call 22; refine (U1.out _).mono ?_; clear U1; rintro e w' ⟨rfl, B⟩; replace BB := Lib.hid (BB.out.trans (B.mono BB.out.size)); clear B)
    | (go_at_call 20; refine (M1.out _).mono ?_; clear M1; rintro e w' ⟨rfl, B⟩; replace BB := Lib.hid (BB.out.trans (B.mono BB.out.size)); clear B))
  go_ret
  exact ⟨rfl, BB.out⟩
set_option maxHeartbeats 4000000 in
set_option maxRecDepth 100000 in
theorem three_f (S T X : ByteArray) (z v : Bool) (w : World)
    (R1 : Hid (∀ w, Calls Tryd.prog 24 #[.string S] w fun e w' => e = .returned (.bool true) ∧ Below w.heap.size w w'))
    (R2 : Hid (∀ w, Calls Tryd.prog 24 #[.string T] w fun e w' => e = .returned (.bool true) ∧ Below w.heap.size w w'))
    (R3 : Hid (∀ w, Calls Tryd.prog 24 #[.string X] w fun e w' => e = .returned (.bool true) ∧ Below w.heap.size w w'))
    (L1 : Hid (∀ w, Calls Tryd.prog 20 #[.string S, .string T] w fun e w' => e = .returned (.bool true) ∧ Below w.heap.size w w'))
    (L2 : Hid (∀ w, Calls Tryd.prog 20 #[.string T, .string X] w fun e w' => e = .returned (.bool false) ∧ Below w.heap.size w w'))
    (L3 : Hid (∀ w, Calls Tryd.prog 20 #[.string S, .string X] w fun e w' => e = .returned (.bool z) ∧ Below w.heap.size w w'))
    (U1 : Hid (∀ w, Calls Tryd.prog 22 #[.string X, .string S] w fun e w' => e = .returned (.bool false) ∧ Below w.heap.size w w'))
    (U2 : Hid (∀ w, Calls Tryd.prog 22 #[.string T, .string S] w fun e w' => e = .returned (.bool v) ∧ Below w.heap.size w w')) :
    Calls Tryd.prog 6 #[.string S, .string T, .string X] w fun e w' => e = .returned (.bool true) ∧ Below w.heap.size w w' := by
  have NA := Lib.hid named_any
  have BB := Lib.hid (Below.refl w.heap.size w)
  have M1 := L1
  have M2 := L2
  go_enter Tryd.func6, Tryd.ntmps6
  go_wp2_with (first
    | (go_at_call 10; refine (NA.out _).mono ?_; rintro e w' ⟨rfl, B⟩; replace BB := Lib.hid (BB.out.trans (B.mono BB.out.size)); clear B)
    | (go_at_call 24; refine (R1.out _).mono ?_; clear R1; rintro e w' ⟨rfl, B⟩; replace BB := Lib.hid (BB.out.trans (B.mono BB.out.size)); clear B)
    | (go_at_call 24; refine (R2.out _).mono ?_; clear R2; rintro e w' ⟨rfl, B⟩; replace BB := Lib.hid (BB.out.trans (B.mono BB.out.size)); clear B)
    | (go_at_call 24; refine (R3.out _).mono ?_; clear R3; rintro e w' ⟨rfl, B⟩; replace BB := Lib.hid (BB.out.trans (B.mono BB.out.size)); clear B)
    | (go_at_call 20; refine (L1.out _).mono ?_; clear L1; rintro e w' ⟨rfl, B⟩; replace BB := Lib.hid (BB.out.trans (B.mono BB.out.size)); clear B)
    | (go_at_call 20; refine (L2.out _).mono ?_; clear L2; rintro e w' ⟨rfl, B⟩; replace BB := Lib.hid (BB.out.trans (B.mono BB.out.size)); clear B)
    | (go_at_call 22; refine (U1.out _).mono ?_; clear U1; rintro e w' ⟨rfl, B⟩; replace BB := Lib.hid (BB.out.trans (B.mono BB.out.size)); clear B))
  go_ret
  exact ⟨rfl, BB.out⟩
set_option maxHeartbeats 4000000 in
set_option maxRecDepth 100000 in
theorem three_g (S T X : ByteArray) (z v : Bool) (w : World)
    (R1 : Hid (∀ w, Calls Tryd.prog 24 #[.string S] w fun e w' => e = .returned (.bool true) ∧ Below w.heap.size w w'))
    (R2 : Hid (∀ w, Calls Tryd.prog 24 #[.string T] w fun e w' => e = .returned (.bool true) ∧ Below w.heap.size w w'))
    (R3 : Hid (∀ w, Calls Tryd.prog 24 #[.string X] w fun e w' => e = .returned (.bool true) ∧ Below w.heap.size w w'))
    (L1 : Hid (∀ w, Calls Tryd.prog 20 #[.string S, .string T] w fun e w' => e = .returned (.bool true) ∧ Below w.heap.size w w'))
    (L2 : Hid (∀ w, Calls Tryd.prog 20 #[.string T, .string X] w fun e w' => e = .returned (.bool false) ∧ Below w.heap.size w w'))
    (L3 : Hid (∀ w, Calls Tryd.prog 20 #[.string S, .string X] w fun e w' => e = .returned (.bool z) ∧ Below w.heap.size w w'))
    (U1 : Hid (∀ w, Calls Tryd.prog 22 #[.string X, .string S] w fun e w' => e = .returned (.bool true) ∧ Below w.heap.size w w'))
    (U2 : Hid (∀ w, Calls Tryd.prog 22 #[.string T, .string S] w fun e w' => e = .returned (.bool v) ∧ Below w.heap.size w w')) :
    Calls Tryd.prog 6 #[.string S, .string T, .string X] w fun e w' => e = .returned (.bool true) ∧ Below w.heap.size w w' := by
  have NA := Lib.hid named_any
  have BB := Lib.hid (Below.refl w.heap.size w)
  have M1 := L1
  have M2 := L2
  go_enter Tryd.func6, Tryd.ntmps6
  go_wp2_with (first
    | (go_at_call 10; refine (NA.out _).mono ?_; rintro e w' ⟨rfl, B⟩; replace BB := Lib.hid (BB.out.trans (B.mono BB.out.size)); clear B)
    | (go_at_call 24; refine (R1.out _).mono ?_; clear R1; rintro e w' ⟨rfl, B⟩; replace BB := Lib.hid (BB.out.trans (B.mono BB.out.size)); clear B)
    | (go_at_call 24; refine (R2.out _).mono ?_; clear R2; rintro e w' ⟨rfl, B⟩; replace BB := Lib.hid (BB.out.trans (B.mono BB.out.size)); clear B)
    | (go_at_call 24; refine (R3.out _).mono ?_; clear R3; rintro e w' ⟨rfl, B⟩; replace BB := Lib.hid (BB.out.trans (B.mono BB.out.size)); clear B)
    | (go_at_call 20; refine (L1.out _).mono ?_; clear L1; rintro e w' ⟨rfl, B⟩; replace BB := Lib.hid (BB.out.trans (B.mono BB.out.size)); clear B)
    | (go_at_call 20; refine (L2.out _).mono ?_; clear L2; rintro e w' ⟨rfl, B⟩; replace BB := Lib.hid (BB.out.trans (B.mono BB.out.size)); clear B)
    | (go_at_call 22; refine (U1.out _).mono ?_; clear U1; rintro e w' ⟨rfl, B⟩; replace BB := Lib.hid (BB.out.trans (B.mono BB.out.size)); clear B)
    | (go_at_call 20; refine (M1.out _).mono ?_; clear M1; rintro e w' ⟨rfl, B⟩; replace BB := Lib.hid (BB.out.trans (B.mono BB.out.size)); clear B)
    | (go_at_call 20; refine (M2.out _).mono ?_; clear M2; rintro e w' ⟨rfl, B⟩; replace BB := Lib.hid (BB.out.trans (B.mono BB.out.size)); clear B))
  go_ret
  exact ⟨rfl, BB.out⟩
set_option maxHeartbeats 4000000 in
set_option maxRecDepth 100000 in
theorem three_h (S T X : ByteArray) (v : Bool) (w : World)
    (R1 : Hid (∀ w, Calls Tryd.prog 24 #[.string S] w fun e w' => e = .returned (.bool true) ∧ Below w.heap.size w w'))
    (R2 : Hid (∀ w, Calls Tryd.prog 24 #[.string T] w fun e w' => e = .returned (.bool true) ∧ Below w.heap.size w w'))
    (R3 : Hid (∀ w, Calls Tryd.prog 24 #[.string X] w fun e w' => e = .returned (.bool true) ∧ Below w.heap.size w w'))
    (L1 : Hid (∀ w, Calls Tryd.prog 20 #[.string S, .string T] w fun e w' => e = .returned (.bool true) ∧ Below w.heap.size w w'))
    (L2 : Hid (∀ w, Calls Tryd.prog 20 #[.string T, .string X] w fun e w' => e = .returned (.bool true) ∧ Below w.heap.size w w'))
    (L3 : Hid (∀ w, Calls Tryd.prog 20 #[.string S, .string X] w fun e w' => e = .returned (.bool true) ∧ Below w.heap.size w w'))
    (U1 : Hid (∀ w, Calls Tryd.prog 22 #[.string X, .string S] w fun e w' => e = .returned (.bool false) ∧ Below w.heap.size w w'))
    (U2 : Hid (∀ w, Calls Tryd.prog 22 #[.string T, .string S] w fun e w' => e = .returned (.bool v) ∧ Below w.heap.size w w')) :
    Calls Tryd.prog 6 #[.string S, .string T, .string X] w fun e w' => e = .returned (.bool true) ∧ Below w.heap.size w w' := by
  have NA := Lib.hid named_any
  have BB := Lib.hid (Below.refl w.heap.size w)
  have M1 := L1
  have M2 := L2
  go_enter Tryd.func6, Tryd.ntmps6
  go_wp2_with (first
    | (go_at_call 10; refine (NA.out _).mono ?_; rintro e w' ⟨rfl, B⟩; replace BB := Lib.hid (BB.out.trans (B.mono BB.out.size)); clear B)
    | (go_at_call 24; refine (R1.out _).mono ?_; clear R1; rintro e w' ⟨rfl, B⟩; replace BB := Lib.hid (BB.out.trans (B.mono BB.out.size)); clear B)
    | (go_at_call 24; refine (R2.out _).mono ?_; clear R2; rintro e w' ⟨rfl, B⟩; replace BB := Lib.hid (BB.out.trans (B.mono BB.out.size)); clear B)
    | (go_at_call 24; refine (R3.out _).mono ?_; clear R3; rintro e w' ⟨rfl, B⟩; replace BB := Lib.hid (BB.out.trans (B.mono BB.out.size)); clear B)
    | (go_at_call 20; refine (L1.out _).mono ?_; clear L1; rintro e w' ⟨rfl, B⟩; replace BB := Lib.hid (BB.out.trans (B.mono BB.out.size)); clear B)
    | (go_at_call 20; refine (L2.out _).mono ?_; clear L2; rintro e w' ⟨rfl, B⟩; replace BB := Lib.hid (BB.out.trans (B.mono BB.out.size)); clear B)
    | (go_at_call 20; refine (L3.out _).mono ?_; clear L3; rintro e w' ⟨rfl, B⟩; replace BB := Lib.hid (BB.out.trans (B.mono BB.out.size)); clear B)
    | (go_at_call 22; refine (U1.out _).mono ?_; clear U1; rintro e w' ⟨rfl, B⟩; replace BB := Lib.hid (BB.out.trans (B.mono BB.out.size)); clear B))
  go_ret
  exact ⟨rfl, BB.out⟩
set_option maxHeartbeats 4000000 in
set_option maxRecDepth 100000 in
theorem three_i (S T X : ByteArray) (w : World)
    (R1 : Hid (∀ w, Calls Tryd.prog 24 #[.string S] w fun e w' => e = .returned (.bool true) ∧ Below w.heap.size w w'))
    (R2 : Hid (∀ w, Calls Tryd.prog 24 #[.string T] w fun e w' => e = .returned (.bool true) ∧ Below w.heap.size w w'))
    (R3 : Hid (∀ w, Calls Tryd.prog 24 #[.string X] w fun e w' => e = .returned (.bool true) ∧ Below w.heap.size w w'))
    (L1 : Hid (∀ w, Calls Tryd.prog 20 #[.string S, .string T] w fun e w' => e = .returned (.bool true) ∧ Below w.heap.size w w'))
    (L2 : Hid (∀ w, Calls Tryd.prog 20 #[.string T, .string X] w fun e w' => e = .returned (.bool true) ∧ Below w.heap.size w w'))
    (L3 : Hid (∀ w, Calls Tryd.prog 20 #[.string S, .string X] w fun e w' => e = .returned (.bool true) ∧ Below w.heap.size w w'))
    (U1 : Hid (∀ w, Calls Tryd.prog 22 #[.string X, .string S] w fun e w' => e = .returned (.bool true) ∧ Below w.heap.size w w'))
    (U2 : Hid (∀ w, Calls Tryd.prog 22 #[.string T, .string S] w fun e w' => e = .returned (.bool true) ∧ Below w.heap.size w w')) :
    Calls Tryd.prog 6 #[.string S, .string T, .string X] w fun e w' => e = .returned (.bool true) ∧ Below w.heap.size w w' := by
  have NA := Lib.hid named_any
  have BB := Lib.hid (Below.refl w.heap.size w)
  have M1 := L1
  have M2 := L2
  go_enter Tryd.func6, Tryd.ntmps6
  go_wp2_with (first
    | (go_at_call 10; refine (NA.out _).mono ?_; rintro e w' ⟨rfl, B⟩; replace BB := Lib.hid (BB.out.trans (B.mono BB.out.size)); clear B)
    | (go_at_call 24; refine (R1.out _).mono ?_; clear R1; rintro e w' ⟨rfl, B⟩; replace BB := Lib.hid (BB.out.trans (B.mono BB.out.size)); clear B)
    | (go_at_call 24; refine (R2.out _).mono ?_; clear R2; rintro e w' ⟨rfl, B⟩; replace BB := Lib.hid (BB.out.trans (B.mono BB.out.size)); clear B)
    | (go_at_call 24; refine (R3.out _).mono ?_; clear R3; rintro e w' ⟨rfl, B⟩; replace BB := Lib.hid (BB.out.trans (B.mono BB.out.size)); clear B)
    | (go_at_call 20; refine (L1.out _).mono ?_; clear L1; rintro e w' ⟨rfl, B⟩; replace BB := Lib.hid (BB.out.trans (B.mono BB.out.size)); clear B)
    | (go_at_call 20; refine (L2.out _).mono ?_; clear L2; rintro e w' ⟨rfl, B⟩; replace BB := Lib.hid (BB.out.trans (B.mono BB.out.size)); clear B)
    | (go_at_call 20; refine (L3.out _).mono ?_; clear L3; rintro e w' ⟨rfl, B⟩; replace BB := Lib.hid (BB.out.trans (B.mono BB.out.size)); clear B)
    | (go_at_call 22; refine (U1.out _).mono ?_; clear U1; rintro e w' ⟨rfl, B⟩; replace BB := Lib.hid (BB.out.trans (B.mono BB.out.size)); clear B)
    | (go_at_call 20; refine (M1.out _).mono ?_; clear M1; rintro e w' ⟨rfl, B⟩; replace BB := Lib.hid (BB.out.trans (B.mono BB.out.size)); clear B)
    | (go_at_call 20; refine (M2.out _).mono ?_; clear M2; rintro e w' ⟨rfl, B⟩; replace BB := Lib.hid (BB.out.trans (B.mono BB.out.size)); clear B)
    | (go_at_call 22; refine (U2.out _).mono ?_; clear U2; rintro e w' ⟨rfl, B⟩; replace BB := Lib.hid (BB.out.trans (B.mono BB.out.size)); clear B))
  go_ret
  exact ⟨rfl, BB.out⟩
theorem three (A B C : List (BitVec 8)) (w : World) (hA : A.length ≤ 2000000) (hB : B.length ≤ 2000000) (hC : C.length ≤ 2000000) :
    Calls Tryd.prog 6 #[.string (sL A), .string (sL B), .string (sL C)] w fun e w' => e = .returned (.bool true) ∧ Below w.heap.size w w' := by
  have R1 := Lib.hid (fun w => right_any A w hA)
  have R2 := Lib.hid (fun w => right_any B w hB)
  have R3 := Lib.hid (fun w => right_any C w hC)
  have L1 := Lib.hid (fun w => less_any A B w (by omega) (by omega))
  have L2 := Lib.hid (fun w => less_any B C w (by omega) (by omega))
  have L3 := Lib.hid (fun w => less_any A C w (by omega) (by omega))
  have U1 := Lib.hid (fun w => under_any C A w (by omega) (by omega))
  have U2 := Lib.hid (fun w => under_any B A w (by omega) (by omega))
  cases h1 : rightB A with
  | false =>
    rw [h1] at R1
    exact three_a _ _ _ _ _ _ _ _ _ _ w R1 R2 R3 L1 L2 L3 U1 U2
  | true =>
    rw [h1] at R1
    cases h2 : rightB B with
    | false =>
      rw [h2] at R2
      exact three_b _ _ _ _ _ _ _ _ _ w R1 R2 R3 L1 L2 L3 U1 U2
    | true =>
      rw [h2] at R2
      cases h3 : rightB C with
      | false =>
        rw [h3] at R3
        exact three_c _ _ _ _ _ _ _ _ w R1 R2 R3 L1 L2 L3 U1 U2
      | true =>
        rw [h3] at R3
        cases hx : lessF A B with
        | false =>
          rw [hx] at L1
          cases hu : underF C A with
          | false =>
            rw [hu] at U1
            exact three_d _ _ _ _ _ _ w R1 R2 R3 L1 L2 L3 U1 U2
          | true =>
            rw [hu] at U1
            exact three_e _ _ _ _ _ _ w R1 R2 R3 L1 L2 L3 U1 U2
        | true =>
          rw [hx] at L1
          cases hy : lessF B C with
          | false =>
            rw [hy] at L2
            cases hu : underF C A with
            | false =>
              rw [hu] at U1
              exact three_f _ _ _ _ _ w R1 R2 R3 L1 L2 L3 U1 U2
            | true =>
              rw [hu] at U1
              exact three_g _ _ _ _ _ w R1 R2 R3 L1 L2 L3 U1 U2
          | true =>
            rw [hy] at L2
            rw [less_trans hx hy] at L3
            cases hu : underF C A with
            | false =>
              rw [hu] at U1
              exact three_h _ _ _ _ w R1 R2 R3 L1 L2 L3 U1 U2
            | true =>
              rw [hu] at U1
              rw [less_between hu hx hy] at U2
              exact three_i _ _ _  w R1 R2 R3 L1 L2 L3 U1 U2
theorem open_sL {H : Type} {enc : TypeId × Value → H} {w : World} {base : Nat} {v : Value} {d : DataW H} {p : List MemPlace} (hk : Value.okWide Tryd.prog w .any base 9 v)
    (h : DataW.Trod enc Tryd.prog w 0 (fun _ => true) true 9 v d p) : ∃ L, v = .string (sL L) ∧ Rows.uptoBulk d = L.length + 1 := by
  obtain ⟨s, hs, hd, -, -⟩ := Go.ChangeMaps.open_string Tryd.underlying9 hk h
  obtain ⟨f, n, hv, hn⟩ := open_text hk h
  rw [hv] at hs
  injection hs with hs
  refine ⟨(List.range n).map f, by rw [hv, of_sL], ?_⟩
  rw [hd, List.length_map, List.length_range]
  have h1 : s.data.toList.length = n := by
    rw [← hs, Array.length_toList]
    exact strOf_size f n
  rw [Rows.uptoBulk, h1]
theorem walk {H : Type} {enc : TypeId × Value → H} (w : World) (base : Nat) (v0 v1 v2 : Value) (d0 d1 d2 : DataW H) (p0 p1 p2 : List MemPlace)
    (k0 : Value.okWide Tryd.prog w .any base 9 v0) (k1 : Value.okWide Tryd.prog w .any base 9 v1) (k2 : Value.okWide Tryd.prog w .any base 9 v2)
    (h0 : DataW.Trod enc Tryd.prog w 0 (fun _ => true) true 9 v0 d0 p0) (h1 : DataW.Trod enc Tryd.prog w 0 (fun _ => true) true 9 v1 d1 p1) (h2 : DataW.Trod enc Tryd.prog w 0 (fun _ => true) true 9 v2 d2 p2)
    (kb : Rows.uptoBulkAll [d0, d1, d2] ≤ 1048576) (tab : Tab w) :
    Calls Tryd.prog 6 #[v0, v1, v2] w fun e w' => e = .returned (.bool true) ∧ Below w.heap.size w w' := by
  obtain ⟨A, rfl, e0⟩ := open_sL k0 h0
  obtain ⟨B, rfl, e1⟩ := open_sL k1 h1
  obtain ⟨C, rfl, e2⟩ := open_sL k2 h2
  simp only [Rows.uptoBulkAll] at kb
  exact three A B C w (by omega) (by omega) (by omega)
set_option maxRecDepth 100000 in
theorem contract (H : Type) (enc : TypeId × Value → H) (W : World) (base : Nat) (args : Array Value) (ds gs : List (DataW H)) (before : List MemPlace)
    (hval0 : ∀ (j : Nat) t v, Tryd.f6.params[j]? = some t → args[j]? = some v → Value.okWide Tryd.prog W .any base t v)
    (hW : DataW.Whole enc Tryd.prog Tryd.f6.params.toList Rows.nameThreeSpec.vars false W args.toList ds gs before) (hL : laidMetH Tryd.prog laids W) (hcond : Rows.uptoBulkAll (ds ++ gs) ≤ 1048576) :
    Calls Tryd.prog 6 args W fun e W' => ∃ v, e = .returned v ∧ Rows.nameThreeSpec.post enc Tryd.prog Tryd.f6 false true false false W args v W' := by
  have hval : ∀ (j : Nat) t v, Tryd.f6.params[j]? = some t → args[j]? = some v → Value.okWide Tryd.prog W .any base t v := hval0
  have hW' := hW
  obtain ⟨p, q, hA0, hV, rfl, hfz, hnd⟩ := hW
  have hA : DataW.TrodAll enc Tryd.prog W 0 (fun _ => true) true Tryd.f6.params.toList args.toList ds p := hA0
  rw [Tryd.params6] at hA hval
  obtain ⟨v0, vs0, d0, ds0, p0, q0, hargs, rfl, rfl, h0, r0⟩ := trodAll_cons hA
  obtain ⟨v1, vs1, d1, ds1, p1, q1, rfl, rfl, rfl, h1, r1⟩ := trodAll_cons r0
  obtain ⟨v2, vs2, d2, ds2, p2, q2, rfl, rfl, rfl, h2, r2⟩ := trodAll_cons r1
  obtain ⟨rfl, rfl, rfl⟩ := trodAll_nil r2
  obtain rfl : args = #[v0, v1, v2] := by cases args; simp_all
  obtain ⟨rfl, rfl⟩ := trodVars_none hV
  rw [List.append_nil] at hcond
  have k0 := h0
  have lt0 : ∀ x ∈ p0, x.block < W.heap.size := by obtain ⟨m, hm⟩ := k0; exact DataW.trod_lt m _ _ _ hm
  have k1 := h1
  have lt1 : ∀ x ∈ p1, x.block < W.heap.size := by obtain ⟨m, hm⟩ := k1; exact DataW.trod_lt m _ _ _ hm
  have k2 := h2
  have lt2 : ∀ x ∈ p2, x.block < W.heap.size := by obtain ⟨m, hm⟩ := k2; exact DataW.trod_lt m _ _ _ hm
  clear hA0 hval0
  refine (walk W base v0 v1 v2 d0 d1 d2 p0 p1 p2 (hval 0 9 v0 rfl rfl) (hval 1 9 v1 rfl rfl) (hval 2 9 v2 rfl rfl) k0 k1 k2 hcond (tab_of_laid hL)).mono fun e W' ⟨he, bel⟩ => ?_
  subst he
  exact ⟨_, rfl, _, _, _, [], _, [], hW', trodAll_mk1 (shut_bool Tryd.underlying4 _), (trodAll_cons_mk (Below.trod laidOut (by kernel_rfl) (of_decide_eq_true (by kernel_rfl)) k0 bel lt0) (trodAll_cons_mk (Below.trod laidOut (by kernel_rfl) (of_decide_eq_true (by kernel_rfl)) k1 bel lt1) (trodAll_cons_mk (Below.trod laidOut (by kernel_rfl) (of_decide_eq_true (by kernel_rfl)) k2 bel lt2) trodAll_mk0))), rfl, bel.frame _, fun h => by cases h⟩
theorem reads (os : Os) {H : Type} (enc : TypeId × Value → H) : ∃ places, DataW.whole enc Tryd.prog ((World.laidAll Tryd.prog os laids).forCall (fun _ _ => 0) ⟨#[], #[.string ⟨#[]⟩, .string ⟨#[]⟩, .string ⟨#[]⟩], []⟩).memory Tryd.f6.params.toList Rows.nameThreeSpec.vars false (#[.string ⟨#[]⟩, .string ⟨#[]⟩, .string ⟨#[]⟩] : Array Value).toList 8 = some ([.lit (.string []), .lit (.string []), .lit (.string [])], [], places) :=
  ⟨[], by kernel_rfl⟩
set_option maxRecDepth 100000 in
theorem liftedUpto (os : Os) (started : os.Started) (H : Type) (enc : TypeId × Value → H) (F : Stop.Interp) :
    ReturnsInHanded {} Tryd.checked os 6 .any ((Rows.OpenSpec.upto Rows.nameThreeSpec).preRow enc Tryd.prog Tryd.f6 Rows.nameThreeUptoRow.domain false Rows.nameThreeUptoRow.laid) (((Rows.OpenSpec.upto Rows.nameThreeSpec).at F).post enc Tryd.prog Tryd.f6 false true false false) := by
  obtain ⟨places, hx⟩ := reads os enc
  have hok : Input.okWideB Tryd.prog ((World.laidAll Tryd.prog os laids).forCall (fun _ _ => 0) ⟨#[], #[.string ⟨#[]⟩, .string ⟨#[]⟩, .string ⟨#[]⟩], []⟩) 6 ⟨#[], #[.string ⟨#[]⟩, .string ⟨#[]⟩, .string ⟨#[]⟩], []⟩ = true := by kernel_rfl
  refine returnsInHanded_of_row (C := Tryd.checked) (s := Rows.OpenSpec.upto Rows.nameThreeSpec) own started (by kernel_rfl) Tryd.func6
    ⟨(World.laidAll Tryd.prog os laids), fun _ _ => 0, ⟨#[], #[.string ⟨#[]⟩, .string ⟨#[]⟩, .string ⟨#[]⟩], []⟩, World.laidAll_os _ _ _, start_shaped os, (Input.okWide_of_okWideB (base := 0) hok).1, (Input.okWide_of_okWideB hok).2,
      OpenSpec.preRow_of_cond 8 hx (by kernel_rfl) (fun k hk => by cases hk; kernel_rfl) (by kernel_rfl) (start_met os _), by
        simp only [Assume.holds]
        exact ⟨by simp, by simp, fun _ => Modest.zero, by simp, by simp⟩⟩ ?_
  intro W base args ds gs before hval hW _ hcond _ hL _ _
  exact contract H enc W base args ds gs before hval hW hL (of_decide_eq_true (hcond _ rfl))
theorem saidUpto : Rows.NameThreeUptoSaid :=
  OpenClaim.holds_of_cond 6 Tryd.f6 rfl rfl rfl rfl rfl rfl rfl ⟨rfl, rfl, rfl, rfl, rfl⟩ rfl rfl rfl rfl rfl (by kernel_rfl) Tryd.func6 (by kernel_rfl)
    (of_decide_eq_true (by kernel_rfl)) (by unfold Func.isWrapper; first | (rw [if_pos (by decide +kernel)]; kernel_rfl) | (rw [if_neg (by decide +kernel)]; exact ⟨rfl, rfl⟩))
    (fun os started H enc _ F => by rw [OpenClaim.pre_eq_preRow]; exact liftedUpto os started H enc F)
theorem proved : Rows.NameThreeUptoCardSaid :=
  Claim7.holds_tied_plain_at .later [] _ _ _ _
    saidUpto (fun _ h => by cases h) (by kernel_rfl) (fun _ h => by cases h) nameThreeUpto_row_tie rfl ⟨rfl, rfl⟩ (by kernel_rfl) rfl
    (fun f fn hf hfn => by
      obtain rfl : f = 6 := Option.some.inj ((show Tryd.prog.funcNamed "rhyne/rhynelaw17.NameThree" = some 6 by kernel_rfl).symm.trans hf) |>.symm
      obtain rfl : fn = Tryd.f6 := (Option.some.inj (Tryd.func6.symm.trans hfn)).symm
      exact ⟨by kernel_rfl, fun j t ht => by
        rw [Tryd.params6] at ht
        have hm : t ∈ [9, 9, 9] := by simpa using Array.mem_of_getElem? ht
        have hall : ([9, 9, 9].all fun u => !Tryd.prog.wantsStandIn u) = true := by kernel_rfl
        exact (show Tryd.prog.wantsStandIn t = false by simpa using List.all_eq_true.1 hall t hm)⟩)
    (by kernel_rfl)
end Go.Proofs.YtddpfbeclmgndaaDoor.nameThree
