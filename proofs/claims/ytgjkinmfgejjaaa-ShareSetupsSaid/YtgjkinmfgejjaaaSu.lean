/-
  A setup's box, kept by calls that only make memory.
-/
import Derived.Test.YtgjkinmfgejjaaaS7
import Derived.Deep.RegionHeld3
import Derived.Deep.RegionWith
namespace Go.Proofs.Ytgjkinmfgejjaaa
open Go.RowKit
set_option linter.unusedVariables false

/-- the box at a holds a setup -/
def Su (a p : Nat) (n t : Int) (W : World) : Prop :=
  a < W.heap.size ∧ W.cell? ⟨a, 0, none⟩ = some (.int .u64 p) ∧ W.cell? ⟨a, 1, none⟩ = some (.int .i64 n) ∧ W.cell? ⟨a, 2, none⟩ = some (.int .i64 t)
theorem Su.new (w : World) (p : Nat) (n t : Int) : Su w.heap.size p n t (w.alloc (.cells #[.int .u64 p, .int .i64 n, .int .i64 t] 24)) := by
  refine ⟨by simp, by simp, by simp, by simp⟩
theorem Su.below {a p : Nat} {n t : Int} {W W' : World} (h : Su a p n t W) (hb : Below W.heap.size W W') : Su a p n t W' :=
  ⟨Nat.lt_of_lt_of_le h.1 hb.size, (hb.cell (p := ⟨a, 0, none⟩) h.1).trans h.2.1, (hb.cell (p := ⟨a, 1, none⟩) h.1).trans h.2.2.1, (hb.cell (p := ⟨a, 2, none⟩) h.1).trans h.2.2.2⟩
theorem Su.drew {a p : Nat} {n t : Int} {W : World} (h : Su a p n t W) : Su a p n t W.drew := h
theorem below_of_drew {W W' : World} (h : Below W.heap.size W.drew W') : Below W.heap.size W W' := (Below.refl _ W).drew.trans h
end Go.Proofs.Ytgjkinmfgejjaaa
