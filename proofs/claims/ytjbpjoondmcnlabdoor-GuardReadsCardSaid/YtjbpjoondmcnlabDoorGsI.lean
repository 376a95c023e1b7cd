/-
  GuardSeals: the program's Seal and the document's, one behind the other.
-/
import Derived.Test.YtjbpjoondmcnlabDoorGsG
namespace Go.Proofs.YtjbpjoondmcnlabDoor
open Go Go.RowKit Go.BigFrame
set_option linter.unusedSimpArgs false
set_option linter.unusedVariables false
set_option maxRecDepth 100000
theorem str_of (s : ByteArray) (n : Nat) (h : s.size = n) : ∃ f, s = strOf f n := by
  obtain ⟨f, hf⟩ := str_as s
  rw [h] at hf
  exact ⟨f, hf⟩
def SealsTo (K I M : ByteArray) (f xs : Nat → BitVec 8) (m n : Nat) (S N : Int) (T : ByteArray) (r : Int) : Prop :=
  ∀ (w' : World) (a a2 : Option Addr) (c c2 : Nat), m ≤ c → c ≤ maxLen → BytesIn w' a m f → BytesIn w' a2 n xs →
    Calls Tryd.prog 11 #[.agg (kysC K I M), .slice a m c, .int .i64 S, .int .i64 N, .slice a2 n c2] w' fun e w2 => ∃ b m2 c3 g, e = .returned (.tuple #[.slice b m2 c3, .int .i64 r]) ∧ BytesIn w2 b m2 g ∧ T = strOf g m2 ∧ Below w'.heap.size w' w2
theorem sealsTo_bad (K I M : ByteArray) (f xs : Nat → BitVec 8) (m n : Nat) (S N r : Int) (hr : r ≠ 0)
    (SL : ∀ (w' : World) (a a2 : Option Addr) (c c2 : Nat), m ≤ c → c ≤ maxLen → BytesIn w' a m f → Calls Tryd.prog 25 #[.agg (kysC K I M), .slice a m c, .int .i64 S, .int .i64 N, .slice a2 n c2] w' fun e w2 => e = .returned (.int .i64 r) ∧ Below w'.heap.size w' w2) :
    SealsTo K I M f xs m n S N ⟨#[]⟩ r := by
  intro w' a a2 c c2 hc hcm hf hx
  refine (seal_bad K I M a a2 m c n c2 S N r w' hr (fun w2 hb => SL w2 a a2 c c2 hc hcm (bytesIn_later hf hb))).mono ?_
  rintro e w2 ⟨rfl, hb⟩
  exact ⟨none, 0, 0, fun _ => 0#8, rfl, ⟨by unfold maxLen; omega, .inl rfl⟩, rfl, hb⟩
theorem seals_both (K I M : ByteArray) (f xs : Nat → BitVec 8) (m n : Nat) (hm : m ≤ 4000) (hn : n ≤ 1000) (S N : Int) (hS0 : 0 - 9223372036854775808 ≤ S) (hS1 : S ≤ 9223372036854775807) (w : World) :
    Calls Tryd.prog 10 #[.agg (kysC K I M), .string (strOf f m), .int .i64 S, .int .i64 N, .string (strOf xs n)] w fun e w1 => ∃ (T : ByteArray) (r : Int), e = .returned (.tuple #[.string T, .int .i64 r]) ∧ Below w.heap.size w w1 ∧ SealsTo K I M f xs m n S N T r := by
  by_cases hbad : badArg K.size I.size M.size m S N
  · refine (docSeal_arg K I M _ _ _ rfl rfl rfl S N hS0 hS1 _ _ m (strOf_size _ _) hm w hbad).mono ?_
    rintro e w1 ⟨rfl, hb⟩
    exact ⟨_, _, rfl, hb, sealsTo_bad K I M f xs m n S N 1 (by decide) (fun w' a a2 c c2 _ _ _ => sealable_arg K I M _ _ _ rfl rfl rfl S N hS0 hS1 a a2 m c n c2 hm w' hbad)⟩
  · unfold badArg at hbad
    have h0 : 0 ≤ N ∧ N ≤ 4611686018427387903 := Decidable.byContradiction fun h => hbad (.inr (.inr (.inl h)))
    have hk : K.size = 16 ∧ I.size = 12 ∧ M.size = 16 := Decidable.byContradiction fun h => hbad (.inr (.inr (.inr (.inl h))))
    obtain ⟨s, rfl⟩ : ∃ s : Nat, S = (s : Int) := ⟨S.toNat, by omega⟩
    have hs1 : 1 ≤ s := by omega
    have hs4 : s ≤ 4 := by omega
    have hsm : s + 1 ≤ m := by omega
    obtain ⟨k, rfl⟩ := str_of K 16 hk.1
    obtain ⟨iv, rfl⟩ := str_of I 12 hk.2.1
    obtain ⟨mk, rfl⟩ := str_of M 16 hk.2.2
    have SLr := fun (r : Int) (hr : (¬ formOk f m s N ∧ r = 2) ∨ (formOk f m s N ∧ n + s < 4 ∧ r = 3) ∨ (formOk f m s N ∧ ¬ n + s < 4 ∧ 65000 < n ∧ r = 5) ∨ (formOk f m s N ∧ ¬ n + s < 4 ∧ ¬ 65000 < n ∧ r = 0)) (w' : World) (a a2 : Option Addr) (c c2 : Nat) (hc : m ≤ c) (hf : BytesIn w' a m f) =>
      sealable_ok (strOf k 16) (strOf iv 12) (strOf mk 16) (strOf_size _ _) (strOf_size _ _) (strOf_size _ _) N h0.1 h0.2 s hs1 hs4 a a2 m c n c2 f hm hc w' hsm hf r hr
    have DS := fun (T : ByteArray) (r : Int) (hr : sealR k iv mk f xs N m s n T r) => docSeal_ok k iv mk f xs N h0.1 h0.2 s m n hs1 hs4 hm hsm (by omega) w T r hr
    by_cases hform : formOk f m s N
    · by_cases hns : n + s < 4
      · refine (DS ⟨#[]⟩ 3 (.inr (.inl ⟨hform, hns, rfl, rfl⟩))).mono ?_
        rintro e w1 ⟨rfl, hb⟩
        exact ⟨_, _, rfl, hb, sealsTo_bad _ _ _ f xs m n s N 3 (by decide) (fun w' a a2 c c2 hc _ hf => SLr 3 (.inr (.inl ⟨hform, hns, rfl⟩)) w' a a2 c c2 hc hf)⟩
      · have hn5 : ¬ 65000 < n := by omega
        refine (DS _ 0 (.inr (.inr (.inr ⟨hform, hns, hn5, rfl, rfl⟩)))).mono ?_
        rintro e w1 ⟨rfl, hb⟩
        refine ⟨_, _, rfl, hb, ?_⟩
        intro w' a a2 c c2 hc hcm hf hx
        refine (seal_ok k iv mk f xs N h0.1 h0.2 s m n hs1 hs4 hm hsm hns hn5 a a2 c c2 hc hcm w' hf hx (fun w2 hb => SLr 0 (.inr (.inr (.inr ⟨hform, hns, hn5, rfl⟩))) w2 a a2 c c2 hc (bytesIn_later hf hb))).mono ?_
        rintro e w2 ⟨g, z, c', rfl, hg, hc', hcm', ra, hb⟩
        exact ⟨_, _, c', _, rfl, ra.bytesIn (by omega), rfl, hb⟩
    · refine (DS ⟨#[]⟩ 2 (.inl ⟨hform, rfl, rfl⟩)).mono ?_
      rintro e w1 ⟨rfl, hb⟩
      exact ⟨_, _, rfl, hb, sealsTo_bad _ _ _ f xs m n s N 2 (by decide) (fun w' a a2 c c2 hc _ hf => SLr 2 (.inl ⟨hform, rfl⟩) w' a a2 c c2 hc hf)⟩
end Go.Proofs.YtjbpjoondmcnlabDoor
