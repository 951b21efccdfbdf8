/-
  The reference's Mul.
-/
import Derived.Test.YtgoognipljknjaaMr18
namespace Go.Proofs.Ytgoognipljknjaa
open Go.RowKit
set_option linter.unusedVariables false

/-- a row of the call's own that is not empty, as a row known whole -/
theorem row_own {w : World} {base n : Nat} {v : Value} {F : Nat → Nat} (h : w.ownsRow base 22 1 v n (vals (M.tabM n F))) (hn : 0 < n) : ∃ g c, v = .slice (some ⟨g, 0, none⟩) n c ∧ base ≤ g ∧ n ≤ c ∧ Row w g n F := by
  obtain ⟨g, c, rfl, hg, _⟩ := h.form hn
  obtain ⟨_, h2, _, h4⟩ := row_of_owns (zs := M.tabM n F) h
  exact ⟨g, c, rfl, hg, h2, h4.congr fun j hj => M.tabM_at F hj⟩
theorem tabM_succ (n : Nat) (F : Nat → Nat) : M.tabM (n + 1) F = M.tabM n F ++ [F n] := by simp [M.tabM, List.range_succ]

end Go.Proofs.Ytgoognipljknjaa
