/-
  Tokens: the reference's letters, digits and blanks.
-/
import Derived.Test.YtagdbbikhegoaaaProg
import Derived.Test.YtagdbbikhegoaaaKa
import Derived.WalkKit
import Derived.WalkSpells
import Derived.WalkLawsBesides
import Derived.Lib.Hide
import Derived.Below
import Derived.Deep.QuietTactic
import Derived.BigQuiet
namespace Go.Proofs.Ytagdbbikhegoaaa
open Go.RowKit
set_option linter.unusedVariables false
set_option maxRecDepth 100000

set_option maxHeartbeats 1000000 in
theorem rletter_any (c : Nat) (w : World) : Calls Try.prog 29 #[.int .u8 c] w fun e w' => e = .returned (.bool (M.letterB c)) ∧ w = w' := by
  by_cases h1 : 97 ≤ c
  · by_cases h2 : c ≤ 122
    · have hl : M.letterB c = true := by unfold M.letterB; rw [decide_eq_true_eq]; omega
      have g1 : decide (97 ≤ (c : Int)) = true := by rw [decide_eq_true_eq]; omega
      have g2 : decide ((c : Int) ≤ 122) = true := by rw [decide_eq_true_eq]; omega
      rw [hl]
      clear hl h1 h2
      go_enter Try.func29, Try.ntmps29
      go_wp2
      go_ret
      exact ⟨rfl, rfl⟩
    · have hl : M.letterB c = false := by unfold M.letterB; rw [decide_eq_false_iff_not]; omega
      have g1 : decide (97 ≤ (c : Int)) = true := by rw [decide_eq_true_eq]; omega
      have g2 : decide ((c : Int) ≤ 122) = false := by rw [decide_eq_false_iff_not]; omega
      rw [hl]
      clear hl h1 h2
      go_enter Try.func29, Try.ntmps29
      go_wp2
      go_ret
      exact ⟨rfl, rfl⟩
  · have hl : M.letterB c = false := by unfold M.letterB; rw [decide_eq_false_iff_not]; omega
    have g1 : decide (97 ≤ (c : Int)) = false := by rw [decide_eq_false_iff_not]; omega
    rw [hl]
    clear hl h1
    go_enter Try.func29, Try.ntmps29
    go_wp2
    go_ret
    exact ⟨rfl, rfl⟩

set_option maxHeartbeats 1000000 in
theorem rdigit_any (c : Nat) (w : World) : Calls Try.prog 30 #[.int .u8 c] w fun e w' => e = .returned (.bool (M.digitB c)) ∧ w = w' := by
  by_cases h1 : 48 ≤ c
  · by_cases h2 : c ≤ 57
    · have hl : M.digitB c = true := by unfold M.digitB; rw [decide_eq_true_eq]; omega
      have g1 : decide (48 ≤ (c : Int)) = true := by rw [decide_eq_true_eq]; omega
      have g2 : decide ((c : Int) ≤ 57) = true := by rw [decide_eq_true_eq]; omega
      rw [hl]
      clear hl h1 h2
      go_enter Try.func30, Try.ntmps30
      go_wp2
      go_ret
      exact ⟨rfl, rfl⟩
    · have hl : M.digitB c = false := by unfold M.digitB; rw [decide_eq_false_iff_not]; omega
      have g1 : decide (48 ≤ (c : Int)) = true := by rw [decide_eq_true_eq]; omega
      have g2 : decide ((c : Int) ≤ 57) = false := by rw [decide_eq_false_iff_not]; omega
      rw [hl]
      clear hl h1 h2
      go_enter Try.func30, Try.ntmps30
      go_wp2
      go_ret
      exact ⟨rfl, rfl⟩
  · have hl : M.digitB c = false := by unfold M.digitB; rw [decide_eq_false_iff_not]; omega
    have g1 : decide (48 ≤ (c : Int)) = false := by rw [decide_eq_false_iff_not]; omega
    rw [hl]
    clear hl h1
    go_enter Try.func30, Try.ntmps30
    go_wp2
    go_ret
    exact ⟨rfl, rfl⟩

set_option maxHeartbeats 1000000 in
theorem rblank_any (c : Nat) (w : World) : Calls Try.prog 33 #[.int .u8 c] w fun e w' => e = .returned (.bool (M.blankB c)) ∧ w = w' := by
  obtain ⟨b, eb⟩ : ∃ b, b = M.blankB c := ⟨_, rfl⟩
  rw [← eb]
  by_cases h0 : c = 32
  case pos =>
    obtain rfl : b = true := by rw [eb, h0]; decide
    have g0 : ((c : Int) == 32) = true := by simp [h0]
    clear eb h0
    go_enter Try.func33, Try.ntmps33
    go_wp2
    go_ret
    exact ⟨rfl, rfl⟩
  have g0 : ((c : Int) == 32) = false := by rw [beq_eq_false_iff_ne]; omega
  by_cases h1 : c = 9
  case pos =>
    obtain rfl : b = true := by rw [eb, h1]; decide
    have g1 : ((c : Int) == 9) = true := by simp [h1]
    clear eb h1
    go_enter Try.func33, Try.ntmps33
    go_wp2
    go_ret
    exact ⟨rfl, rfl⟩
  have g1 : ((c : Int) == 9) = false := by rw [beq_eq_false_iff_ne]; omega
  by_cases h2 : c = 10
  case pos =>
    obtain rfl : b = true := by rw [eb, h2]; decide
    have g2 : ((c : Int) == 10) = true := by simp [h2]
    clear eb h2
    go_enter Try.func33, Try.ntmps33
    go_wp2
    go_ret
    exact ⟨rfl, rfl⟩
  have g2 : ((c : Int) == 10) = false := by rw [beq_eq_false_iff_ne]; omega
  by_cases h3 : c = 13
  case pos =>
    obtain rfl : b = true := by rw [eb, h3]; decide
    have g3 : ((c : Int) == 13) = true := by simp [h3]
    clear eb h3
    go_enter Try.func33, Try.ntmps33
    go_wp2
    go_ret
    exact ⟨rfl, rfl⟩
  have g3 : ((c : Int) == 13) = false := by rw [beq_eq_false_iff_ne]; omega
  obtain rfl : b = false := by rw [eb]; unfold M.blankB; rw [decide_eq_false_iff_not]; omega
  clear eb h0 h1 h2 h3
  go_enter Try.func33, Try.ntmps33
  go_wp2
  go_ret
  exact ⟨rfl, rfl⟩
end Go.Proofs.Ytagdbbikhegoaaa
