/-
  Tokens: the reference's letters, digits and blanks.
-/
import Derived.Test.YtagdbbikhegoaaaDoorProg
import Derived.Test.YtagdbbikhegoaaaDoorKa
import Derived.WalkKit
import Derived.WalkSpells
import Derived.WalkLawsBesides
import Derived.Lib.Hide
import Derived.Below
import Derived.Deep.QuietTactic
import Derived.BigQuiet
namespace Go.Proofs.YtagdbbikhegoaaaDoor
open Go.RowKit
set_option linter.unusedVariables false
set_option maxRecDepth 100000

set_option maxHeartbeats 1000000 in
theorem rdigit_any (c : Nat) (w : World) : Calls Tryd.prog 12 #[.int .u8 c] w fun e w' => e = .returned (.bool (M.digitB c)) ∧ w = w' := by
  by_cases h1 : 48 ≤ c
  · by_cases h2 : c ≤ 57
    · have hl : M.digitB c = true := by unfold M.digitB; rw [decide_eq_true_eq]; omega
      have g1 : decide (48 ≤ (c : Int)) = true := by rw [decide_eq_true_eq]; omega
      have g2 : decide ((c : Int) ≤ 57) = true := by rw [decide_eq_true_eq]; omega
      rw [hl]
      clear hl h1 h2
      go_enter Tryd.func12, Tryd.ntmps12
      go_wp2
      go_ret
      exact ⟨rfl, rfl⟩
    · have hl : M.digitB c = false := by unfold M.digitB; rw [decide_eq_false_iff_not]; omega
      have g1 : decide (48 ≤ (c : Int)) = true := by rw [decide_eq_true_eq]; omega
      have g2 : decide ((c : Int) ≤ 57) = false := by rw [decide_eq_false_iff_not]; omega
      rw [hl]
      clear hl h1 h2
      go_enter Tryd.func12, Tryd.ntmps12
      go_wp2
      go_ret
      exact ⟨rfl, rfl⟩
  · have hl : M.digitB c = false := by unfold M.digitB; rw [decide_eq_false_iff_not]; omega
    have g1 : decide (48 ≤ (c : Int)) = false := by rw [decide_eq_false_iff_not]; omega
    rw [hl]
    clear hl h1
    go_enter Tryd.func12, Tryd.ntmps12
    go_wp2
    go_ret
    exact ⟨rfl, rfl⟩

end Go.Proofs.YtagdbbikhegoaaaDoor
