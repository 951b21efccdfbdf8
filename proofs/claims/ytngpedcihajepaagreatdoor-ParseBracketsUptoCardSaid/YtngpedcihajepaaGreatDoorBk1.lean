/-
  Merged out of the texts Dg8.
-/
import Derived.Test.YtngpedcihajepaaGreatDoorProg
import Derived.WalkKit
import Derived.WalkSpells
import Derived.WalkLawsBesides
import Derived.Lib.Hide
import Derived.Below
import Derived.Deep.QuietTactic
import Derived.BigQuiet
import Derived.Test.YtngpedcihajepaaGreatDoorShelf
import Derived.ProofKit
import Derived.ChangeMaps5
import Derived.Shelf.LaysM
import Derived.Shelf.Strconv.Itoa1
import Derived.Shelf.Strconv.Itoa2
import Derived.Lib.Walk
import Derived.Lib.ItoaMem
import Derived.BigCall
import Derived.BigGuard
import Derived.Test.YtngpedcihajepaaGreatDoorBa1
import Derived.Test.YtngpedcihajepaaGreatDoorBa2
import Derived.Test.YtngpedcihajepaaGreatDoorBa3
import Derived.Test.YtngpedcihajepaaGreatDoorBa4
import Derived.Test.YtngpedcihajepaaGreatDoorBa5
import Derived.Test.YtngpedcihajepaaGreatDoorBa6
import Derived.Test.YtngpedcihajepaaGreatDoorBa7
import Derived.Test.YtngpedcihajepaaGreatDoorBa8
import Derived.Test.YtngpedcihajepaaGreatDoorBa9
import Derived.Test.YtngpedcihajepaaGreatDoorBa10
import Derived.Test.YtngpedcihajepaaGreatDoorBa11
import Derived.Test.YtngpedcihajepaaGreatDoorBa12
import Derived.Test.YtngpedcihajepaaGreatDoorBa13
import Derived.Test.YtngpedcihajepaaGreatDoorBa14
import Derived.Test.YtngpedcihajepaaGreatDoorBa15
import Derived.Test.YtngpedcihajepaaGreatDoorBa16
import Derived.Test.YtngpedcihajepaaGreatDoorBa17
namespace Go.Proofs.YtngpedcihajepaaGreatDoor
open Go.RowKit
set_option linter.unusedVariables false
set_option maxRecDepth 100000
namespace M
theorem digitsL_all (u : Nat) : (digitsL u).all digitB = true := by
  induction u using Nat.strongRecOn with
  | _ u ih =>
    rw [digitsL]
    by_cases h : u < 10
    · rw [if_pos h]; simp [digitB]; omega
    · rw [if_neg h, List.all_append, ih (u / 10) (by omega)]
      simp [digitB]; omega
theorem digitsL_pos (u : Nat) : 0 < (digitsL u).length := by
  rw [digitsL]
  split <;> simp
theorem digitsL_big (u : Nat) : 1 < (digitsL u).length → 10 ^ ((digitsL u).length - 1) ≤ u := by
  induction u using Nat.strongRecOn with
  | _ u ih =>
    rw [digitsL]
    by_cases h : u < 10
    · rw [if_pos h]; intro hl; simp at hl
    · rw [if_neg h, List.length_append]
      intro _
      simp only [List.length_cons, List.length_nil, Nat.add_sub_cancel]
      have hp := digitsL_pos (u / 10)
      by_cases h1 : 1 < (digitsL (u / 10)).length
      · have := ih (u / 10) (by omega) h1
        have e : (digitsL (u / 10)).length = (digitsL (u / 10)).length - 1 + 1 := by omega
        rw [e, Nat.pow_succ]
        omega
      · have e : (digitsL (u / 10)).length = 1 := by omega
        rw [e]; omega
theorem num_append (l r : List Nat) : ∀ k, k ≤ l.length → num (l ++ r) k = num l k
  | 0, _ => rfl
  | k + 1, h => by
    show 10 * num (l ++ r) k + ((l ++ r).getD k 0 - 48) = 10 * num l k + (l.getD k 0 - 48)
    rw [num_append l r k (by omega), List.getD_eq_getElem?_getD, List.getD_eq_getElem?_getD, List.getElem?_append_left (by omega)]
theorem num_digits (u : Nat) : num (digitsL u) (digitsL u).length = u := by
  induction u using Nat.strongRecOn with
  | _ u ih =>
    by_cases h : u < 10
    · rw [digitsL, if_pos h]
      show 10 * 0 + (48 + u - 48) = u
      omega
    · have e : digitsL u = digitsL (u / 10) ++ [48 + u % 10] := by rw [digitsL, if_neg h]
      rw [e, List.length_append]
      show 10 * num (digitsL (u / 10) ++ [48 + u % 10]) (digitsL (u / 10)).length + ((digitsL (u / 10) ++ [48 + u % 10]).getD (digitsL (u / 10)).length 0 - 48) = u
      rw [num_append _ _ _ (Nat.le_refl _), ih (u / 10) (by omega), List.getD_eq_getElem?_getD, List.getElem?_append_right (Nat.le_refl _), Nat.sub_self]
      show 10 * (u / 10) + (48 + u % 10 - 48) = u
      omega
theorem numE_digits (u : Nat) : numE (digitsL u) = if 4294967295 < u then 3 else 0 := by
  have h0 : digitsL u ≠ [] := List.length_pos_iff.1 (digitsL_pos u)
  unfold numE
  rw [if_neg (by rw [digitsL_all u]; simp [h0])]
  by_cases h : 10 < (digitsL u).length
  · have h1 := digitsL_big u (by omega)
    have h2 : 10 ^ 10 ≤ 10 ^ ((digitsL u).length - 1) := Nat.pow_le_pow_right (by decide) (by omega)
    rw [if_pos h, if_pos (by omega)]
  · rw [if_neg h, num_digits]
theorem numV_digits (u : Nat) : numV (digitsL u) = if 4294967295 < u then 0 else u := by
  unfold numV
  rw [numE_digits]
  by_cases h : 4294967295 < u
  · rw [if_pos h, if_pos h, if_neg (by decide)]
  · rw [if_neg h, if_neg h, if_pos rfl, num_digits]
end M
end Go.Proofs.YtngpedcihajepaaGreatDoor
