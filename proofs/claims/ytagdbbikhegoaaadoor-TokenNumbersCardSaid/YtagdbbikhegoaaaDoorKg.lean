/-
  Tokens: the reference's Check.
-/
import Derived.Test.YtagdbbikhegoaaaDoorKd
import Derived.Test.YtagdbbikhegoaaaDoorKf
import Derived.Deep.RegionHeld3
namespace Go.Proofs.YtagdbbikhegoaaaDoor
open Go.RowKit
set_option linter.unusedVariables false
set_option maxRecDepth 100000
namespace M
/-- the error of a token -/
def tokE (k : Int) (t : List Nat) (a : Int) : Int := if tokB k t = true ∧ 0 ≤ a then 0 else 4
theorem tokE_no {k : Int} {t : List Nat} {a : Int} (h : tokB k t = false) : tokE k t a = 4 := by unfold tokE; rw [if_neg (by rw [h]; simp)]
theorem tokE_neg {k : Int} {t : List Nat} {a : Int} (h : a < 0) : tokE k t a = 4 := by unfold tokE; rw [if_neg (by omega)]
theorem tokE_ok {k : Int} {t : List Nat} {a : Int} (h : tokB k t = true) (h2 : 0 ≤ a) : tokE k t a = 0 := by unfold tokE; rw [if_pos ⟨h, h2⟩]
theorem tokB_name (t : List Nat) : tokB 1 t = isName t := by simp [tokB]
theorem tokB_num (t : List Nat) : tokB 2 t = decide (numE t = 0) := by simp [tokB]
theorem tokB_sign (t : List Nat) : tokB 3 t = signB t := by simp [tokB]
theorem tokB_else {k : Int} (t : List Nat) (h1 : k ≠ 1) (h2 : k ≠ 2) (h3 : k ≠ 3) : tokB k t = false := by simp [tokB, h1, h2, h3]
end M
theorem bnext8 {W w1 w2 : World} (h1 : Below W.heap.size W w1) (h2 : Below w1.heap.size w1 w2) : Below W.heap.size W w2 := h1.trans (h2.mono h1.size)
theorem balloc8 (W : World) (o : Obj) : Below W.heap.size W (W.alloc o) := (Below.refl _ _).alloc (Nat.le_refl _) _
end Go.Proofs.YtagdbbikhegoaaaDoor
