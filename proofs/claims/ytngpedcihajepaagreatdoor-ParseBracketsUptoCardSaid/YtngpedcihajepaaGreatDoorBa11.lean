/-
  Merged out of the texts Cg9.
-/
import Derived.Test.YtngpedcihajepaaGreatDoorProg
import Derived.WalkKit
import Derived.WalkSpells
import Derived.WalkLawsBesides
import Derived.Lib.Hide
import Derived.Below
import Derived.Deep.QuietTactic
import Derived.BigQuiet
import Derived.ProofKit
import Derived.ChangeMaps5
import Derived.Deep.RegionHeld3
import Derived.Test.YtngpedcihajepaaGreatDoorBa1
import Derived.Test.YtngpedcihajepaaGreatDoorBa2
import Derived.Test.YtngpedcihajepaaGreatDoorBa3
import Derived.Test.YtngpedcihajepaaGreatDoorBa6
namespace Go.Proofs.YtngpedcihajepaaGreatDoor
open Go.RowKit
set_option linter.unusedVariables false
set_option maxRecDepth 100000
theorem kid_mem {l : List M.Tree} {i : Nat} (h : i < l.length) : l.getD i M.Tree.no ∈ l := by
  rw [List.getD_eq_getElem?_getD, List.getElem?_eq_getElem h]; exact List.getElem_mem _

end Go.Proofs.YtngpedcihajepaaGreatDoor
