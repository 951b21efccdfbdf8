/-
  What makes slices of numbers; the words for it.
-/
import Derived.Test.YtgoognipljknjaaFld
import Derived.ArgAppend
import Derived.OwnWalk
import Derived.BigQuiet
import Derived.Deep.QuietTactic
namespace Go.Proofs.Ytgoognipljknjaa
open Go.RowKit
set_option linter.unusedVariables false


/-- a call hands back a slice that reads as zs; nothing that was there has turned -/
def Gives (w : World) (zs : List Nat) (e : Ending) (w' : World) : Prop := ∃ v', e = .returned v' ∧ Nums w' v' zs ∧ Below w.heap.size w w'

theorem infoU64 : (Try.prog.info? 22).map (fun i => (i.zero, i.size, i.bytes)) = some (some (.int .u64 0), 1, 8) := by kernel_rfl

end Go.Proofs.Ytgoognipljknjaa
