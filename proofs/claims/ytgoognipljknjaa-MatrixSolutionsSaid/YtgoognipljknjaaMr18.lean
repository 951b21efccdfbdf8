/-
  Package matrix: Mul. The reference's column, Mul.
-/
import Derived.Test.YtgoognipljknjaaMr17
namespace Go.Proofs.Ytgoognipljknjaa
open Go.RowKit
set_option linter.unusedVariables false

namespace M
theorem dotK_comm (l m : List Nat) : ∀ k, dotK l m k = dotK m l k
  | 0 => rfl
  | k + 1 => by rw [dotK, dotK, dotK_comm l m k, Nat.mul_comm]
/-- an element of the product of a and b, which has n rows -/
def mulF (p : Nat) (a b : List (List Nat)) (n : Nat) (i j : Nat) : Nat := dotK (a.getD i []) (col b j n) n % p
def mul (p : Nat) (a b : List (List Nat)) (R n K : Nat) : List (List Nat) := tabMM R K (mulF p a b n)
theorem mulF_app {p : Nat} {a b : List (List Nat)} {n K i j : Nat} (hj : j < K) : app p (tr b n K) (a.getD i []) j = mulF p a b n i j := by
  unfold app mulF
  rw [tr_row hj, col_len, dotK_comm]
theorem mulF_lt {p : Nat} (h : 0 < p) (a b : List (List Nat)) (n i j : Nat) : mulF p a b n i j < p := Nat.mod_lt _ h
end M

end Go.Proofs.Ytgoognipljknjaa
