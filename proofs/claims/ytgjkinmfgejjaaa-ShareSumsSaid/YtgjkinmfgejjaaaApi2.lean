/-
  Package poly: Mul and Slope.
-/
import Derived.Test.YtgjkinmfgejjaaaApi1
import Derived.Test.YtgjkinmfgejjaaaRootsM
import Derived.Test.YtgjkinmfgejjaaaP9
namespace Go.Proofs.Ytgjkinmfgejjaaa
open Go.RowKit
set_option linter.unusedVariables false

/-- the answer of Mul: the product, or ErrLimit (3) -/
def MulEnd (p : Nat) (f g : List Nat) (u : Value) (c : Int) (w' : World) : Prop :=
  ((M.pmul p f g).length ≤ 201 ∧ c = 0 ∧ Nums w' u (M.pmul p f g)) ∨ (201 < (M.pmul p f g).length ∧ c = 3 ∧ u = .slice none 0 0)

/-! ### Slope -/
/-- a slice of numbers without its first number -/
theorem nums_tail {w : World} {A : Option Addr} {cap : Nat} {zs : List Nat} (h : Nums w (.slice A zs.length cap) zs) (h0 : 0 < zs.length) : ∃ A', (if cap = 1 then A else A.map (·.add 1)) = A' ∧ Nums w (.slice A' (zs.length - 1) (cap - 1)) (zs.drop 1) := by
  refine ⟨_, rfl, ?_⟩
  obtain ⟨h1, h2, h3⟩ := h
  refine ⟨fun n hn => h1 n (List.mem_of_mem_drop hn), by rw [List.length_drop]; omega, ?_⟩
  rcases h3 with ⟨a, c, e, rfl, hn⟩ | ⟨b, off, c, e, hc, hb, hcell⟩
  · simp at h0
  · cases e
    by_cases hcap : cap = 1
    · rw [if_pos hcap]
      left
      refine ⟨_, _, by rw [show zs.length - 1 = 0 by omega], List.drop_eq_nil_of_le (by omega), by simp⟩
    · rw [if_neg hcap]
      right
      refine ⟨b, off + 1, cap - 1, by simp [Addr.add], by simp; omega, hb, fun i hi => ?_⟩
      have hi' : 1 + i < zs.length := by simp at hi; omega
      rw [Nat.add_assoc, hcell _ hi']
      simp [List.getD_eq_getElem?_getD, Nat.add_comm]

end Go.Proofs.Ytgjkinmfgejjaaa
