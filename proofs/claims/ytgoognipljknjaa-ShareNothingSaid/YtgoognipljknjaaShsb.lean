/-
  Sharings: values and degrees.
-/
import Derived.Test.YtgoognipljknjaaS12
namespace Go.Proofs.Ytgoognipljknjaa.M
open Go.RowKit
set_option linter.unusedVariables false

theorem shsb_len (p N : Nat) (f : List Nat) : (shs p N f).length = N := by simp [shs, tabM]
theorem shsb_within {p : Nat} (hp : 0 < p) (N : Nat) (f : List Nat) : within p (shs p N f) = true := by
  refine within_of fun i hi => ?_
  rw [shsb_len] at hi
  unfold shs
  rw [tabM_get, if_pos hi]
  exact pev_lt _ _ hp
/-- f passes through its own values at the parties' points -/
theorem shs_at {p N i : Nat} (f : List Nat) (h : i < N) : (shs p N f).getD i 0 = pev p f (i + 1) := by
  unfold shs; rw [tabM_get, if_pos h]
theorem shs_thru {p N : Nat} (hi : isP p = true) (hN : N < p) {f : List Nat} (hw : within p f = true) (ht : trim f = f) (hl : f.length ≤ N) : Thru p (prts N) (shs p N f) f := by
  refine ⟨hw, ht, by rw [prts_len]; exact hl, fun i h => ?_⟩
  rw [prts_len] at h
  rw [prts_get h, shs_at f h]
end Go.Proofs.Ytgoognipljknjaa.M
