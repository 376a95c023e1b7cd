/-
  guard: the law's first test: RFC 9001's name has its key.
-/
import Derived.Test.YtebhhonmpoeliaaDoorGuardC
import Derived.Test.YtebhhonmpoeliaaDoorGdA
import Derived.Test.YtebhhonmpoeliaaDoorGdB
import Derived.Test.YtebhhonmpoeliaaDoorGdC
namespace Go.Proofs.YtebhhonmpoeliaaDoor
open Go Go.RowKit Go.BigFrame
set_option linter.unusedSimpArgs false
set_option linter.unusedVariables false
set_option maxRecDepth 100000
theorem gdA_str : strOf (tb gdataA) 8 = ⟨#[131, 148, 200, 240, 62, 81, 87, 8]⟩ := by kernel_rfl
theorem com_bytes : ∀ i, i < 32 → comB (tb gdataA) 8 i = tb gkeyB i := fun i hi => by
  have h := gmacA i hi
  exact h
def cliF : Nat → BitVec 8 := lblB (comB (tb gdataA) 8) 32 32 9 (tb qcin)
theorem lbl_first (K : Nat → BitVec 8) (f : Nat → BitVec 8) (m N l : Nat) (s : Nat → BitVec 8) (L : List Nat) (hK : keyB f m = K) (k : Nat) (hk : 9 + l + 1 + 0 + 1 = k)
    (h : (List.range k).all (fun i => joinb (joinb (fun _ => 0#8) 0 (infoB N l s 0 (fun _ => 0#8))) (0 + (9 + l + 1 + 0)) (fun _ => BitVec.ofNat 8 1) i == tb L i) = true) (i : Nat) (hi : i < 32) : lblB f m N l s i = macB K (tb L) k i := by
  unfold lblB expB
  rw [hK, show i / 32 = 0 by omega, show i % 32 = i by omega]
  show macB K (joinb (joinb (fun _ => 0#8) 0 (infoB N l s 0 (fun _ => 0#8))) (0 + (9 + l + 1 + 0)) (fun _ => BitVec.ofNat 8 (0 + 1))) (0 + (9 + l + 1 + 0) + 1) i = _
  rw [show 0 + (9 + l + 1 + 0) + 1 = k by omega]
  rw [macB_agree (tb_agree _ L k h)]
theorem cli_bytes : ∀ i, i < 32 → cliF i = tb gkeyC i := fun i hi => by
  have e := lbl_first (keyB (tb gkeyB) 32) (comB (tb gdataA) 8) 32 32 9 (tb qcin) gdataB (keyB_agree (by omega) com_bytes) 20 rfl (by kernel_rfl) i hi
  exact e.trans (gmacB i hi)
theorem key_bytes : ∀ i, i < 32 → lblB cliF 32 16 8 (tb qkey) i = tb goutC i := fun i hi => by
  have e := lbl_first (keyB (tb gkeyC) 32) cliF 32 16 8 (tb qkey) gdataC (keyB_agree (by omega) cli_bytes) 19 rfl (by kernel_rfl) i hi
  exact e.trans (gmacC i hi)
theorem key_0 : lblB cliF 32 16 8 (tb qkey) 0 = 31#8 := (key_bytes 0 (by omega)).trans (by kernel_rfl)
theorem key_15 : lblB cliF 32 16 8 (tb qkey) 15 = 45#8 := (key_bytes 15 (by omega)).trans (by kernel_rfl)
end Go.Proofs.YtebhhonmpoeliaaDoor
