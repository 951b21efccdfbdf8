/-
  Merged out of the texts N9.
-/
import Derived.Deep.RegionHeld3
import Derived.Test.YtngpedcihajepaaGreatDoorProg
import Derived.WalkKit
import Derived.WalkSpells
import Derived.WalkLawsBesides
import Derived.Lib.Hide
import Derived.Below
import Derived.Deep.QuietTactic
import Derived.BigQuiet
import Derived.ProofKit
import Derived.ChangeMaps5
import Derived.Test.YtngpedcihajepaaGreatDoorBa1
import Derived.Test.YtngpedcihajepaaGreatDoorBa2
import Derived.Test.YtngpedcihajepaaGreatDoorBa3
namespace Go.Proofs.YtngpedcihajepaaGreatDoor
open Go.RowKit
set_option linter.unusedVariables false
set_option maxRecDepth 100000
theorem wrap64_add (a b : Int) : wrap64 (wrap64 a + wrap64 b) = wrap64 (a + b) := by
  unfold wrap64
  omega
theorem countL_take {l : List M.Tree} {k : Nat} (h : k < l.length) : M.countL (l.take (k + 1)) = M.countL (l.take k) + M.count (l.getD k M.Tree.no) := by
  induction l generalizing k with
  | nil => simp at h
  | cons a r ih =>
    cases k with
    | zero => simp [M.countL]
    | succ k =>
      have := ih (k := k) (by simpa using h)
      simp only [List.take_succ_cons, M.countL, this]
      simp only [List.getD_cons_succ]
      omega
end Go.Proofs.YtngpedcihajepaaGreatDoor
