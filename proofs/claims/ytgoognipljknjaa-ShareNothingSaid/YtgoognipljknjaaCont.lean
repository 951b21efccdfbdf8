/-
  Contracts: slices.Contains at 0.
-/
import Derived.Test.YtgoognipljknjaaRef1
namespace Go.Proofs.Ytgoognipljknjaa
open Go.RowKit
set_option linter.unusedVariables false

def NoZero (zs : List Nat) (k : Nat) : Prop := ∀ i, i < k → zs.getD i 0 ≠ 0
/-- what Index answers: a place at which 0 stands, or -1 and there is none -/
def Found (zs : List Nat) (e : Ending) : Prop := (∃ k : Nat, k < zs.length ∧ zs.getD k 0 = 0 ∧ e = .returned (.int .i64 k)) ∨ (NoZero zs zs.length ∧ e = .returned (.int .i64 (-1)))

end Go.Proofs.Ytgoognipljknjaa
