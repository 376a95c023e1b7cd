/-
  name: is a text a name?
-/
import Derived.Test.YtddpfbeclmgndaaDoorNmE
namespace Go.Proofs.YtddpfbeclmgndaaDoor
open Go Go.RowKit Go.Shelf
set_option linter.unusedSimpArgs false
set_option linter.unusedVariables false
attribute [local go_sem] Oper.semAt_some
theorem box_of {W : World} {B : Nat} {v : Value} {t : TypeId} (h : W.heap[B]? = some (.cells #[v] t (0, 0))) : W.cell? ⟨B, 0, none⟩ = some v ∧ W.frozen? ⟨B, 0, none⟩ = false := by
  constructor <;> simp [World.cell?, World.frozen?, h]
theorem box_new (W : World) (v : Value) (t : TypeId) : (W.alloc (.cells #[v] t)).cell? ⟨W.heap.size, 0, none⟩ = some v ∧ (W.alloc (.cells #[v] t)).frozen? ⟨W.heap.size, 0, none⟩ = false :=
  box_of (World.alloc_heap_new W _)
theorem box_alloc {W : World} {a : Addr} {v : Value} (o : Obj) (h : W.cell? a = some v) : (W.alloc o).cell? a = some v := cell_kept h (World.grownBy_alloc W o none) (fun r e => by cases e)
theorem box_allocF {W : World} {a : Addr} {v : Value} (o : Obj) (h : W.cell? a = some v) (hf : W.frozen? a = false) : (W.alloc o).frozen? a = false := (frozen_kept h (World.grownBy_alloc W o none) (fun r e => by cases e)).trans hf
set_option maxRecDepth 100000 in
theorem splitSeq_any (L : List (BitVec 8)) (w : World) : Calls Tryd.prog 40 #[.string (sL L), .string ⟨#[46]⟩] w fun e w' =>
    e = .returned (.func (.func 61) #[] #[.pointer (some ⟨w.heap.size + 1, 0, none⟩), .pointer (some ⟨w.heap.size, 0, none⟩), .pointer (some ⟨w.heap.size + 2, 0, none⟩)]) ∧
    SpAt (w.heap.size + 1) w.heap.size (w.heap.size + 2) L w' ∧ Below w.heap.size w w' ∧ w'.heap.size = w.heap.size + 3 := by
  obtain ⟨S, hS⟩ : ∃ S, sL L = S := ⟨_, rfl⟩
  rw [hS]
  go_enter Tryd.func40, Tryd.ntmps40
  go_wp2
  go_ret
  have s1 := box_new w (.string S) 9
  have s2 := box_new (w.alloc (.cells #[.string S] 9)) (.string ⟨#[46]⟩) 9
  have s3 := box_new ((w.alloc (.cells #[.string S] 9)).alloc (.cells #[.string ⟨#[46]⟩] 9)) (.int .i64 0) 3
  rw [World.size_alloc] at s2
  rw [World.size_alloc, World.size_alloc] at s3
  refine ⟨rfl, ⟨box_alloc _ s2.1, ?_, s3.1, box_allocF _ (box_alloc _ s1.1) (box_allocF _ s1.1 s1.2)⟩, (((Below.refl _ w).alloc (Nat.le_refl _) _).alloc (by simp) _).alloc (by simp; omega) _, by simp⟩
  rw [hS]
  exact box_alloc _ (box_alloc _ s1.1)
/-- Is it a name? -/
def rightB (L : List (BitVec 8)) : Bool := decide (L = [46#8]) || (decide (L.length + 1 ≤ 255) && sufB L [46#8] && (splitDot (trimF L [46#8])).all isPartB)
set_option maxHeartbeats 4000000 in
set_option maxRecDepth 100000 in
theorem isName_any (L : List (BitVec 8)) (w : World) (hL : L.length ≤ 4611686018427387904) : Calls Tryd.prog 29 #[.string (sL L)] w fun e w' => e = .returned (.bool (rightB L)) ∧ Below w.heap.size w w' := by
  have hz := sL_size L
  have hE : ((sL L).toList == [46]) = decide (L = [46#8]) := by
    have := sL_beq L [46#8]
    rw [sL_list [46#8]] at this
    exact this
  have HS := Lib.hid (fun w => hasSuffix_any L [46#8] w (by omega))
  have HT := Lib.hid (fun w => trimSuffix_any L [46#8] w (by omega))
  rw [sL_dot] at HS HT
  refine (callsIn_wide (n := 4)).1 ?_
  refine callsIn_of_wp_marks Tryd.func29 rfl trivial ?_ rfl
  simp only [Tryd.ntmps29, List.size_toArray, List.length_cons, List.length_nil, Nat.reduceAdd, Nat.reduceSub, Array.replicate_succ, Array.replicate_zero, List.push_toArray, List.append_toArray, List.nil_append, List.cons_append]
  by_cases h1 : L = [46#8]
  · rw [decide_eq_true h1] at hE
    have hr : rightB L = true := by unfold rightB; rw [decide_eq_true h1]; rfl
    rw [hr]
    generalize sL L = S at *
    gi_wp2
    have hb := box_new w (.bool true) 4
    refine ⟨.bool true, ?_, rfl, (Below.refl _ w).alloc (Nat.le_refl _) _⟩
    simp [results, Tryd.f29, go_sem, hb.1]
  · rw [decide_eq_false h1] at hE
    by_cases h2 : L.length + 1 ≤ 255
    · cases h3 : sufB L [46#8] with
      | false =>
        rw [h3] at HS
        have hr : rightB L = false := by unfold rightB; rw [decide_eq_false h1, h3]; simp
        rw [hr]
        have hq : ¬ (255 : Int) < (L.length : Int) + 1 := by omega
        clear HT h3
        generalize sL L = S at *
        gi_wp2_with (refine ⟨trivial, ?_⟩; gi_at_call 37; refine (callsIn_wide.2 (HS.out _)).mono ?_; rintro e w' ⟨rfl, rfl⟩)
        have hb := box_new w (.bool false) 4
        refine ⟨.bool false, ?_, rfl, (Below.refl _ w).alloc (Nat.le_refl _) _⟩
        simp [results, Tryd.f29, go_sem, hb.1]
      | true =>
        rw [h3] at HS
        have hr : rightB L = (splitDot (trimF L [46#8])).all isPartB := by unfold rightB; rw [decide_eq_false h1, h3, decide_eq_true h2]; simp
        rw [hr]
        have hq : ¬ (255 : Int) < (L.length : Int) + 1 := by omega
        have ht : (trimF L [46#8]).length ≤ 1000 := by unfold trimF; split <;> (try rw [List.length_take]) <;> omega
        generalize trimF L [46#8] = T at *
        have HP := Lib.hid (fun w => splitSeq_any T w)
        generalize sL L = S at *
        gi_wp2_with (first | (refine ⟨trivial, ?_⟩; gi_at_call 37; refine (callsIn_wide.2 (HS.out _)).mono ?_; rintro e w' ⟨rfl, rfl⟩) | (refine ⟨trivial, ?_⟩; gi_at_call 31; refine (callsIn_wide.2 (HT.out _)).mono ?_; rintro e w' ⟨rfl, rfl⟩) | (refine ⟨trivial, ?_⟩; gi_at_call 40; refine (callsIn_wide.2 (HP.out _)).mono ?_; rintro e w2 ⟨rfl, A2, B2, Z2⟩))
        have hb := box_new w (.bool false) 4
        rw [World.size_alloc] at A2 B2 Z2
        have cR := (B2.cell (p := ⟨w.heap.size, 0, none⟩) (by simp)).trans hb.1
        have fR := (B2.frozen (p := ⟨w.heap.size, 0, none⟩) (by simp)).trans hb.2
        have BW : Below w.heap.size w w2 := ((Below.refl _ w).alloc (Nat.le_refl _) _).trans (B2.mono (by omega))
        have hz2 : w2.heap.size = w.heap.size + 4 := by omega
        refine wpIn_rangeFunc_mine (α := List (BitVec 8)) (F := Fence.wide) rfl (by omega) (gf := 61) (lb := #[.pointer (some ⟨w.heap.size + 1 + 1, 0, none⟩), .pointer (some ⟨w.heap.size + 1, 0, none⟩), .pointer (some ⟨w.heap.size + 1 + 2, 0, none⟩)]) rfl trivial (enters_of Tryd.func61 (by kernel_rfl) rfl)
          (split_mine (w.heap.size + 1 + 1) (w.heap.size + 1) (w.heap.size + 1 + 2) (w.heap.size + 4) (by omega) (by omega) (by omega) (by omega) (by omega) T ht) belowK_t (belowK_b (w := w2) (by omega)) (fun _ => rfl)
          (fun o1 o2 => A2.later (n₀ := w.heap.size + 4) (((Below.refl _ w2).alloc (by omega) _).alloc (by simp; omega) _) (by omega) (by omega) (by omega))
          (fun pre W => ((∀ p ∈ pre, isPartB p = true) ∧ W.cell? ⟨w.heap.size, 0, none⟩ = some (.bool false) ∧ W.frozen? ⟨w.heap.size, 0, none⟩ = false) ∧ Below w.heap.size w W)
          (fun c pre W => (c = .ret ∧ (∃ p ∈ pre, isPartB p = false) ∧ W.cell? ⟨w.heap.size, 0, none⟩ = some (.bool false)) ∧ Below w.heap.size w W)
          (OwnFrom.and (Own.from (fun s A B row hs hg hr => ⟨hs.1, cell_kept hs.2.1 hg hr, (frozen_kept hs.2.1 hg hr).trans hs.2.2⟩) _) (ownFrom_below (Nat.le_refl _) (by omega)))
          (fun c => OwnFrom.and (Own.from (fun s A B row hs hg hr => ⟨hs.1, hs.2.1, cell_kept hs.2.2 hg hr⟩) _) (ownFrom_below (Nat.le_refl _) (by omega)))
          (fun s A B hs ht => by
            obtain ⟨v, rfl⟩ := ht
            exact ⟨⟨hs.1.1, by rw [World.cell?_setCell_other _ _ _ _ (by simp)]; exact hs.1.2.1, by rw [World.frozen?_setCell]; exact hs.1.2.2⟩, hs.2.setCell (p := ⟨w.heap.size + 1, 0, none⟩) (by simp) _⟩)
          ⟨⟨fun p hp => (by cases hp), cR, fR⟩, BW⟩
          (fun x => { tmps := #[.string S, undef, .pointer (some ⟨w.heap.size, 0, none⟩), .string (sL x), .string S, .bool false, .string S, .int .i64 (L.length : Int), .int .i64 ((L.length : Int) + 1), .bool false, .bool false, .string S, .bool true, .bool false, .bool false, .string S, .string (sL T), .func (.func 61) #[] #[.pointer (some ⟨w.heap.size + 1 + 1, 0, none⟩), .pointer (some ⟨w.heap.size + 1, 0, none⟩), .pointer (some ⟨w.heap.size + 1 + 2, 0, none⟩)], .string (sL x), undef, undef, undef], defers := [] }) ?assign ?body ?done ?stop
        case assign =>
          intro l x W K hK
          gi_wp2
          exact hK
        case body =>
          rintro l pre x W ⟨⟨hp, hc, hf⟩, hB⟩ hpre
          have HQ := Lib.hid (fun w => isPart_any x w)
          cases hx : isPartB x with
          | true =>
            rw [hx] at HQ
            have HX := Lib.hid hx
            have HPp := Lib.hid hp
            clear hp hx
            gi_wp2_with (refine ⟨trivial, ?_⟩; gi_at_call 41; refine (CallsIn.inRound l (callsIn_wide.2 (HQ.out _))).mono ?_; rintro e w' ⟨rfl, rfl⟩)
            exact ⟨KeepsOthers.refl _, Below.refl _ _, ⟨fun p hp' => by rcases List.mem_append.1 hp' with h | h; exact HPp.out p h; rw [List.mem_singleton.1 h]; exact HX.out, hc, hf⟩, hB⟩
          | false =>
            rw [hx] at HQ
            have HX := Lib.hid hx
            have HPp := Lib.hid hp
            clear hp hx
            gi_wp2_with (refine ⟨trivial, ?_⟩; gi_at_call 41; refine (CallsIn.inRound l (callsIn_wide.2 (HQ.out _))).mono ?_; rintro e w' ⟨rfl, rfl⟩)
            exact ⟨KeepsOthers.setCell _ _ _, ⟨rfl, ⟨x, by simp, HX.out⟩, World.cell?_setCell_same' _ _ _ (by rw [hc]; rfl)⟩, hB.setCell (p := ⟨w.heap.size, 0, none⟩) (Nat.le_refl _) _⟩
        case done =>
          rintro D W hD ⟨⟨hp, hc, hf⟩, hB⟩ hK
          have hall : (splitDot T).all isPartB = true := List.all_eq_true.2 hp
          have HA := Lib.hid hall
          clear hp hall
          gi_wp2
          have hK' := (KeepsOthers.setCell W ⟨w.heap.size, 0, none⟩ (.bool true)).same D _ hK rfl
          refine ⟨by simp, .inl ⟨_, _, rfl, run_takeDeferred hK', ?_⟩⟩
          have hc5 := cell_kept (World.cell?_setCell_same' W ⟨w.heap.size, 0, none⟩ (.bool true) (by rw [hc]; rfl)) (grownBy_putObj' _ D (.deferred none)) (fun r e => by cases e; exact ⟨_, hK', rfl⟩)
          refine ⟨.bool true, ?_, by rw [HA.out], (hB.setCell (p := ⟨w.heap.size, 0, none⟩) (Nat.le_refl _) _).trans (belowK_b (w := w2) (by omega) _ D _ _ hD hK' rfl rfl)⟩
          simp [results, Tryd.f29, go_sem, hc5]
        case stop =>
          rintro D c pre W hD hpre ⟨⟨rfl, ⟨p, hp, hpf⟩, hc⟩, hB⟩ hK
          have hall : (splitDot T).all isPartB = false := by
            rw [List.all_eq_false]
            exact ⟨p, hpre.subset hp, by rw [hpf]; simp⟩
          have HA := Lib.hid hall
          clear hall
          gi_wp2
          refine ⟨by simp, .inl ⟨_, _, rfl, run_takeDeferred hK, ?_⟩⟩
          have hc5 := cell_kept hc (grownBy_putObj' _ D (.deferred none)) (fun r e => by cases e; exact ⟨_, hK, rfl⟩)
          refine ⟨.bool false, ?_, by rw [HA.out], hB.trans (belowK_b (w := w2) (by omega) _ D _ _ hD hK rfl rfl)⟩
          simp [results, Tryd.f29, go_sem, hc5]
    · have hr : rightB L = false := by unfold rightB; rw [decide_eq_false h1, decide_eq_false h2]; simp
      rw [hr]
      have hq : (255 : Int) < (L.length : Int) + 1 := by omega
      clear HT HS
      generalize sL L = S at *
      gi_wp2
      refine ⟨trivial, ?_⟩
      gi_wp2
      have hb := box_new w (.bool false) 4
      refine ⟨.bool false, ?_, rfl, (Below.refl _ w).alloc (Nat.le_refl _) _⟩
      simp [results, Tryd.f29, go_sem, hb.1]
end Go.Proofs.YtddpfbeclmgndaaDoor
