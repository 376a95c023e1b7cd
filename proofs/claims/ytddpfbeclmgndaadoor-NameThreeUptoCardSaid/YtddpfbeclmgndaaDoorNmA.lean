/-
  name: texts as lists of bytes; bytes that a part may have; a part.
-/
import Derived.Test.YtddpfbeclmgndaaDoorStrB
import Derived.Test.YtddpfbeclmgndaaDoorBytes
import Derived.Test.YtddpfbeclmgndaaDoorCallRegion
import Derived.Test.YtddpfbeclmgndaaDoorRowKit
import Derived.RegionTactic
import Derived.BigQuiet
import Derived.Deep.QuietTactic
import Derived.Deep.DeepCutAuto
import Derived.Deep.Cut
import Derived.Lib.Hide
import Derived.Lib.Strings
import Derived.Lib.Walk
import Derived.Lib.Bytealg
namespace Go.Proofs.YtddpfbeclmgndaaDoor
open Go Go.RowKit Go.BigFrame
set_option linter.unusedSimpArgs false
set_option linter.unusedVariables false
/-- A text of these bytes. -/
def sL (L : List (BitVec 8)) : ByteArray := ⟨(L.map UInt8.ofBitVec).toArray⟩
def bx (L : List (BitVec 8)) : Nat → BitVec 8 := fun i => L.getD i 0
theorem range_bx (L : List (BitVec 8)) : (List.range L.length).map (bx L) = L := by
  apply List.ext_getElem?
  intro i
  by_cases h : i < L.length
  · simp [bx, h]
  · simp [h]
theorem sL_of (L : List (BitVec 8)) : sL L = strOf (bx L) L.length := by
  unfold sL strOf strL
  conv => lhs; rw [← range_bx L]
  rw [List.map_map]
  rfl
theorem of_sL (f : Nat → BitVec 8) (n : Nat) : strOf f n = sL ((List.range n).map f) := by
  unfold sL strOf strL
  rw [List.map_map]
  rfl
theorem sL_size (L : List (BitVec 8)) : (sL L).size = L.length := by rw [sL_of, strOf_size]
theorem sL_list (L : List (BitVec 8)) : (sL L).toList = L.map UInt8.ofBitVec := by
  rw [ByteArray.toList_eq]
  simp [sL]
theorem u8_inj : Function.Injective UInt8.ofBitVec := fun a b h => congrArg UInt8.toBitVec h
theorem map_u8 {A B : List (BitVec 8)} (h : A.map UInt8.ofBitVec = B.map UInt8.ofBitVec) : A = B := by
  have := congrArg (List.map UInt8.toBitVec) h
  rw [List.map_map, List.map_map] at this
  have e : UInt8.toBitVec ∘ UInt8.ofBitVec = id := rfl
  rw [e, List.map_id, List.map_id] at this
  exact this
theorem sL_inj {A B : List (BitVec 8)} (h : sL A = sL B) : A = B := map_u8 (by rw [← sL_list, ← sL_list, h])
theorem sL_beq (A B : List (BitVec 8)) : ((sL A).toList == (sL B).toList) = decide (A = B) := by
  rw [sL_list, sL_list, Bool.eq_iff_iff, beq_iff_eq, decide_eq_true_eq]
  exact ⟨map_u8, fun h => by rw [h]⟩
theorem sL_none : sL [] = ⟨#[]⟩ := rfl
theorem sL_dot : sL [46#8] = ⟨#[46]⟩ := rfl
theorem sL_at (L : List (BitVec 8)) (i : Nat) (h : i < L.length) (w : World) : (Instr.index 9 (.string (sL L)) (.int .i64 (i : Int))).run Tryd.prog w = .ok (.int .u8 (n8 (bx L i))) w := by
  rw [sL_of]
  exact run_at_str _ _ i h w
/-- May a part have this byte? -/
def okc (c : BitVec 8) : Bool := (97 ≤ c.toNat && c.toNat ≤ 122) || (48 ≤ c.toNat && c.toNat ≤ 57) || c.toNat == 45 || c.toNat == 95 || c.toNat == 42
theorem ret_bool {a b : Bool} (h : a = b) : Ending.returned (.bool a) = .returned (.bool b) := by rw [h]
theorem allowed_any (c : BitVec 8) (w : World) : Calls Tryd.prog 53 #[.int .u8 (n8 c)] w fun e w' => e = .returned (.bool (okc c)) ∧ w = w' := by
  have hn := n8_nat c
  obtain ⟨k, hk⟩ : ∃ k, c.toNat = k := ⟨_, rfl⟩
  have e : okc c = ((97 ≤ k && k ≤ 122) || (48 ≤ k && k ≤ 57) || k == 45 || k == 95 || k == 42) := by unfold okc; rw [hk]
  rw [hk] at hn
  rw [hn, e]
  clear e hn
  go_enter Tryd.func53, Tryd.ntmps53
  go_wp2
  all_goals
    go_ret
    refine ⟨ret_bool ?_, rfl⟩
    rw [Bool.eq_iff_iff]
    simp only [Bool.or_eq_true, Bool.and_eq_true, decide_eq_true_eq, beq_iff_eq]
    first | omega | (simp; omega)
theorem letter_any (c : BitVec 8) (w : World) : Calls Tryd.prog 28 #[.int .u8 (n8 c)] w fun e w' => e = .returned (.bool (okc c)) ∧ w = w' := by
  have hn := n8_nat c
  obtain ⟨k, hk⟩ : ∃ k, c.toNat = k := ⟨_, rfl⟩
  have e : okc c = ((97 ≤ k && k ≤ 122) || (48 ≤ k && k ≤ 57) || k == 45 || k == 95 || k == 42) := by unfold okc; rw [hk]
  rw [hk] at hn
  rw [hn, e]
  clear e hn
  go_enter Tryd.func28, Tryd.ntmps28
  go_wp2
  all_goals
    go_ret
    refine ⟨ret_bool ?_, rfl⟩
    rw [Bool.eq_iff_iff]
    simp only [Bool.or_eq_true, Bool.and_eq_true, decide_eq_true_eq, beq_iff_eq]
    first | omega | (simp; omega)
/-- Is it a part? -/
def isPartB (L : List (BitVec 8)) : Bool := decide (0 < L.length) && decide (L.length ≤ 63) && L.all okc
theorem all_bx (L : List (BitVec 8)) (h : ∀ i, i < L.length → okc (bx L i) = true) : L.all okc = true := by
  rw [List.all_eq_true]
  intro x hx
  obtain ⟨i, hi, rfl⟩ := List.getElem_of_mem hx
  have := h i hi
  unfold bx at this
  rwa [List.getD_eq_getElem?_getD, List.getElem?_eq_getElem hi] at this
theorem not_all_bx (L : List (BitVec 8)) (i : Nat) (hi : i < L.length) (h : okc (bx L i) = false) : L.all okc = false := by
  cases e : L.all okc with
  | false => rfl
  | true =>
    rw [List.all_eq_true] at e
    have := e L[i] (List.getElem_mem hi)
    unfold bx at h
    rw [List.getD_eq_getElem?_getD, List.getElem?_eq_getElem hi] at h
    simp only [Option.getD_some] at h
    rw [this] at h
    cases h
theorem isEmpty_size (S : ByteArray) : S.toList.isEmpty = decide (S.size = 0) := by
  rw [ByteArray.toList_eq]
  have e : S.size = S.data.toList.length := by simp
  rw [e]
  cases S.data.toList <;> simp
set_option maxRecDepth 100000 in
theorem isPart_any (L : List (BitVec 8)) (w : World) : Calls Tryd.prog 41 #[.string (sL L)] w fun e w' => e = .returned (.bool (isPartB L)) ∧ w = w' := by
  have hz := sL_size L
  have hE := isEmpty_size (sL L)
  rw [hz] at hE
  have IX := Lib.hid (fun (i : Nat) (hi : i < L.length) => sL_at L i hi)
  obtain ⟨S, hS⟩ : ∃ S, sL L = S := ⟨_, rfl⟩
  rw [hS] at hz hE IX ⊢
  clear hS
  obtain ⟨e0, he0⟩ : ∃ e0, S.toList.isEmpty = e0 := ⟨_, rfl⟩
  rw [he0] at hE
  obtain ⟨n, hn⟩ : ∃ n, L.length = n := ⟨_, rfl⟩
  have HA := Lib.hid (fun (h : ∀ i, i < n → okc (bx L i) = true) => all_bx L (by rw [hn]; exact h))
  have HB := Lib.hid (fun (i : Nat) (hi : i < n) (h : okc (bx L i) = false) => not_all_bx L i (by rw [hn]; exact hi) h)
  have HP : Hid (isPartB L = (decide (0 < n) && decide (n ≤ 63) && L.all okc)) := by unfold isPartB; rw [hn]; rfl
  rw [hn] at hz hE IX
  clear hn
  by_cases h0 : n = 0
  · rw [decide_eq_true h0] at hE
    subst hE
    clear IX
    have hp : isPartB L = false := by rw [HP.out]; simp [h0]
    rw [hp]
    go_enter Tryd.func41, Tryd.ntmps41
    go_wp2_with fail
    go_ret
    exact ⟨rfl, rfl⟩
  · rw [decide_eq_false h0] at hE
    subst hE
    by_cases h63 : n ≤ 63
    · have hI : ¬ (63 : Int) < (n : Int) := by omega
      have hp : isPartB L = L.all okc := by rw [HP.out]; simp [h63, Nat.pos_of_ne_zero h0]
      rw [hp]
      clear hp HP
      go_enter Tryd.func41, Tryd.ntmps41
      go_wp2_with fail
      go_loopw [13] (fun s13 wr => ∃ k : Nat, k ≤ n ∧ s13 = .int .i64 (k : Int) ∧ Hid (∀ i, i < k → okc (bx L i) = true) ∧ w = wr) (fun s13 _ => n - (intOf s13).toNat)
      case atStart => exact ⟨0, by omega, rfl, fun i hi => absurd hi (Nat.not_lt_zero i), rfl⟩
      case round =>
        obtain ⟨k, hk, rfl, hall, rfl⟩ := hrel
        by_cases hkn : k < n
        · have hkn' : (k : Int) < (n : Int) := by omega
          have hix := IX.out k hkn
          cases hc : okc (bx L k) with
          | true =>
            have hall' : Hid (∀ i, i < k + 1 → okc (bx L i) = true) := fun i hi => by
              by_cases e : i = k
              · rw [e]; exact hc
              · exact hall.out i (by omega)
            have HC := Lib.hid hc
            clear hc hall
            go_wp2_with (go_at_call 53; refine (allowed_any _ _).mono ?_; rintro e w' ⟨rfl, rfl⟩; rw [HC.out])
            go_roundw
            case rel => exact ⟨k + 1, by omega, by rw [Int.natCast_add]; rfl, hall', trivial⟩
            case measure => simp only [intOf]; omega
          | false =>
            have hf := Lib.hid (HB.out k hkn hc)
            have HC := Lib.hid hc
            clear hc hall
            go_wp2_with (go_at_call 53; refine (allowed_any _ _).mono ?_; rintro e w' ⟨rfl, rfl⟩; rw [HC.out])
            go_ret
            exact ⟨by rw [hf.out]; rfl, rfl⟩
        · have hkn' : ¬ (k : Int) < (n : Int) := by omega
          have hf := Lib.hid (HA.out (fun i hi => hall.out i (by omega)))
          clear hall
          go_wp2_with fail
          go_ret
          exact ⟨by rw [hf.out]; rfl, rfl⟩
    · have hI : (63 : Int) < (n : Int) := by omega
      have hp : isPartB L = false := by rw [HP.out]; simp [h63]
      rw [hp]
      clear IX
      go_enter Tryd.func41, Tryd.ntmps41
      go_wp2_with fail
      go_ret
      exact ⟨rfl, rfl⟩
end Go.Proofs.YtddpfbeclmgndaaDoor
