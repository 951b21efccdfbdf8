/-
  For the laws' walks: then, the checks in steps.
-/
import Derived.Test.YtafoonhmfieikaaLawLib
namespace Go.Proofs.Ytafoonhmfieikaa
open Go.RowKit
set_option linter.unusedVariables false

namespace M
theorem rgt_nil {p : Nat} (h : isP p = true) : rgt p [] = 0 := by unfold rgt; rw [if_pos h]; rfl
theorem rgt_nil_no {p : Nat} (h : isP p = false) : rgt p [] = 2 := by unfold rgt; rw [if_neg (by simp [h])]
theorem err_t {p : Nat} {zs : List Nat} (h : within p zs = true) : errOf (within p zs) = 0 := by rw [h]; rfl
theorem err_f {p : Nat} {zs : List Nat} (h : within p zs = false) : errOf (within p zs) = 2 := by rw [h]; rfl
end M

set_option maxHeartbeats 400000 in
theorem then_zero (c : Int) (w : World) :
    Calls Try.prog 44 #[.int .i64 0, .int .i64 c] w fun e w' => e = .returned (.int .i64 c) ∧ w = w' := by
  go_enter Try.func44, Try.ntmps44
  go_wp2_with fail
  go_ret
  exact ⟨rfl, rfl⟩
set_option maxHeartbeats 400000 in
theorem then_two (c : Int) (w : World) :
    Calls Try.prog 44 #[.int .i64 2, .int .i64 c] w fun e w' => e = .returned (.int .i64 2) ∧ w = w' := by
  go_enter Try.func44, Try.ntmps44
  go_wp2_with fail
  go_ret
  exact ⟨rfl, rfl⟩
end Go.Proofs.Ytafoonhmfieikaa
