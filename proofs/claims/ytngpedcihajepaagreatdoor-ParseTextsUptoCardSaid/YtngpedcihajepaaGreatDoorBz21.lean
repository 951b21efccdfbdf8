/-
 Merged out of the texts At9.
-/
import Derived.OwnWalk
import Derived.Deep.RegionHeld3
import Derived.WalkKit
import Derived.ProofKit
import Derived.ChangeMaps5
import Derived.Test.YtngpedcihajepaaGreatDoorProg
import Derived.Still
import Derived.Lib.MinMax
import Derived.WalkSpells
import Derived.WalkLawsBesides
import Derived.Lib.Hide
import Derived.Below
import Derived.Deep.QuietTactic
import Derived.BigQuiet
import Derived.Test.YtngpedcihajepaaGreatDoorBz1
import Derived.Test.YtngpedcihajepaaGreatDoorBz2
import Derived.Test.YtngpedcihajepaaGreatDoorBz3
import Derived.Test.YtngpedcihajepaaGreatDoorBz4
import Derived.Test.YtngpedcihajepaaGreatDoorBz5
import Derived.Test.YtngpedcihajepaaGreatDoorBz6
import Derived.Test.YtngpedcihajepaaGreatDoorBz11
import Derived.Test.YtngpedcihajepaaGreatDoorBz12
import Derived.Test.YtngpedcihajepaaGreatDoorBz13
import Derived.Test.YtngpedcihajepaaGreatDoorBz15
import Derived.Test.YtngpedcihajepaaGreatDoorBz19
import Derived.Test.YtngpedcihajepaaGreatDoorBz20
import Derived.Test.YtngpedcihajepaaGreatDoorSq9
set_option linter.unusedVariables false
set_option linter.unusedSimpArgs false
set_option maxRecDepth 100000
set_option maxHeartbeats 40000000
namespace Go.Proofs.YtngpedcihajepaaGreatDoor
open Go.RowKit
theorem wp_append_strs2 {w : World} {o : Oper} {a : Act} {K : Act -> World -> Prop} {Q : Exit -> Act -> World -> Prop} (s x : Operand) (ho : o.op = .call { callee := .builtin .append, args := #[s, x], argTypes := #[44, 44] })
  (base : Nat) (v y : Value) (L L2 : List ByteArray) (hs : a.eval s = v) (hx : a.eval x = y) (hown : OwnS w base v L) (hy : StrS w y L2) (hl : L.length + L2.length <= 1000000) (hbase : base <= w.heap.size)
  (h : ∀ v' w', OwnS w' base v' (L ++ L2) -> Below base w w' -> w.grownBy w' v.ownBlock -> K (a.put o.dst v') w') : o.wp Tryz.prog a w K Q := by
 obtain ⟨v', w', hr, h2, h3⟩ := run_append_strs w base o.type v y L L2 hown hy hl hbase
 unfold Oper.wp execOp
 simp only [ho, resolve, invoke, builtin, Sem.run_bind, Sem.run_pure, Result.andThen_ok, List.map_toArray, List.map_cons, List.map_nil, hs, hx, hr]
 exact h v' w' h2 (hown.grow h3 (Nat.le_refl _) hbase) h3
end Go.Proofs.YtngpedcihajepaaGreatDoor
