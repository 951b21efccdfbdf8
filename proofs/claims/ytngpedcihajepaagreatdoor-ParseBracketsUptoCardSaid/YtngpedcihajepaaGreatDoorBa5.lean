/-
  Merged out of the texts D9.
-/
import Derived.Lib.MinMax
import Derived.Test.YtngpedcihajepaaGreatDoorProg
import Derived.WalkKit
import Derived.WalkSpells
import Derived.WalkLawsBesides
import Derived.Lib.Hide
import Derived.Below
import Derived.Deep.QuietTactic
import Derived.BigQuiet
import Derived.ProofKit
import Derived.ChangeMaps5
import Derived.Deep.RegionHeld3
import Derived.Test.YtngpedcihajepaaGreatDoorBa1
import Derived.Test.YtngpedcihajepaaGreatDoorBa2
import Derived.Test.YtngpedcihajepaaGreatDoorBa3
import Derived.Test.YtngpedcihajepaaGreatDoorBa4
namespace Go.Proofs.YtngpedcihajepaaGreatDoor
open Go.RowKit
set_option linter.unusedVariables false
set_option maxRecDepth 100000
theorem deepL_take {l : List M.Tree} {k : Nat} (h : k < l.length) : M.deepL (l.take (k + 1)) = max (M.deepL (l.take k)) (M.deep (l.getD k M.Tree.no)) := by
  induction l generalizing k with
  | nil => simp at h
  | cons a r ih =>
    cases k with
    | zero => simp [M.deepL]
    | succ k =>
      have := ih (k := k) (by simpa using h)
      simp only [List.take_succ_cons, M.deepL, this]
      simp only [List.getD_cons_succ]
      omega
theorem countL_le (l : List M.Tree) (k : Nat) : M.countL (l.take k) ≤ M.countL l := by
  induction l generalizing k with
  | nil => simp
  | cons a r ih =>
    cases k with
    | zero => simp [M.countL]
    | succ k => rw [List.take_succ_cons, M.countL, M.countL]; have := ih k; omega
mutual
theorem deep_count : ∀ t : M.Tree, M.deep t ≤ M.count t
  | .node _ _ _ l => by
    rw [M.deep, M.count]
    have := deepL_count l
    omega
theorem deepL_count : ∀ l : List M.Tree, M.deepL l ≤ M.countL l
  | [] => by simp [M.deepL]
  | t :: r => by
    rw [M.deepL, M.countL]
    have h1 := deep_count t
    have h2 := deepL_count r
    omega
end
end Go.Proofs.YtngpedcihajepaaGreatDoor
