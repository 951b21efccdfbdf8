/-
  Contracts: field.Inverses where every number has an inverse.
-/
import Derived.Test.YtgjkinmfgejjaaaInv
import Derived.Test.YtgjkinmfgejjaaaRegion
namespace Go.Proofs.Ytgjkinmfgejjaaa
open Go.RowKit Go.Shelf
set_option linter.unusedVariables false
attribute [local go_sem] Oper.semAt_some

/-- what the loop that goes backward holds: f the row, r the inverse of what is still before it -/
def Good (p : Nat) (zs : List Nat) (pre : List (Nat × Nat)) (f : Nat → Nat) (r : Nat) : Prop :=
  (∀ i, f i < p) ∧ r < p ∧ ∀ k, k ≤ zs.length → pre = downto zs zs.length k → r = M.restAt p zs (zs.length - k) ∧ ∀ i, i < zs.length → f i = if i < zs.length - k then M.preAt p zs i else M.pw p (zs.getD i 0) (p - 2)
theorem Good.step {p : Nat} {zs : List Nat} {pre : List (Nat × Nat)} {f : Nat → Nat} {r : Nat} (hi : M.isP p = true) (hz : ∀ x ∈ zs, x % p ≠ 0) (h : Good p zs pre f r) (x : Nat × Nat) :
    Good p zs (pre ++ [x]) (fun j => if j = x.1 then f x.1 * r % p else f j) (r * x.2 % p) := by
  have hp := M.pos_of hi
  obtain ⟨h1, h2, h3⟩ := h
  refine ⟨fun i => ?_, Nat.mod_lt _ (by omega), fun k hk e => ?_⟩
  · show (if i = x.1 then f x.1 * r % p else f i) < p
    by_cases e : i = x.1
    · rw [if_pos e]; exact Nat.mod_lt _ (by omega)
    · rw [if_neg e]; exact h1 i
  · have hl := congrArg List.length e
    rw [downto_len] at hl
    simp only [List.length_append, List.length_cons, List.length_nil] at hl
    obtain ⟨k', rfl⟩ : ∃ k', k = k' + 1 := ⟨k - 1, by omega⟩
    rw [downto_succ] at e
    obtain ⟨e1, e2⟩ := List.append_inj' e rfl
    obtain ⟨g1, g2⟩ := h3 k' (by omega) e1
    have hx : x = (zs.length - 1 - k', zs[zs.length - 1 - k']?.getD 0) := by simpa using e2
    obtain ⟨m, hm⟩ : ∃ m, m = zs.length - 1 - k' := ⟨_, rfl⟩
    rw [← hm] at hx
    have hml : m < zs.length := by omega
    have hm1 : zs.length - k' = m + 1 := by omega
    have hm2 : zs.length - (k' + 1) = m := by omega
    rw [hm1] at g1 g2
    rw [hm2]
    have hx2 : x.2 = zs.getD m 0 := by rw [hx, List.getD_eq_getElem?_getD]
    have hx1 : x.1 = m := by rw [hx]
    rw [hx1, hx2]
    refine ⟨by rw [g1, M.restAt_pred p zs hml], fun i hi' => ?_⟩
    show (if i = m then f m * r % p else f i) = _
    by_cases he : i = m
    · subst he
      rw [if_pos rfl, if_neg (Nat.lt_irrefl _), g2 i hi', if_pos (Nat.lt_succ_self _), g1]
      exact M.inv_at hi zs hz hi'
    · rw [if_neg he, g2 i hi']
      by_cases h : i < m
      · rw [if_pos h, if_pos (by omega)]
      · rw [if_neg h, if_neg (by omega)]

end Go.Proofs.Ytgjkinmfgejjaaa
