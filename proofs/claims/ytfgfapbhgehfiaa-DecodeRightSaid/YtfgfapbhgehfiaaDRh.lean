/-
  The walk of the law DecodeRight: the box of what came in.
-/
import Derived.Test.YtfgfapbhgehfiaaKp
import Derived.Test.YtfgfapbhgehfiaaFS2
import Derived.Test.YtfgfapbhgehfiaaLex
namespace Go.Proofs.Ytfgfapbhgehfiaa.decodeRightW
open Go.RowKit
set_option linter.unusedVariables false
set_option maxRecDepth 100000

theorem kept4 (w : World) (m : Nat) (hm : m = w.heap.size) (x y z u : Value) (ty : TypeId) : Kept [(⟨m, 0, none⟩, x), (⟨m, 1, none⟩, y), (⟨m, 2, none⟩, z), (⟨m, 3, none⟩, u)] (w.alloc (.cells #[x, y, z, u] ty)) := by
  subst hm
  intro q hq
  simp at hq
  rcases hq with rfl | rfl | rfl | rfl <;> simp
end Go.Proofs.Ytfgfapbhgehfiaa.decodeRightW
namespace Go.Proofs.Ytfgfapbhgehfiaa
theorem Kept.c4 {a b c e : Addr} {x y z u : Value} {L : List (Addr × Value)} {W : World} (h : Kept ((a, x) :: (b, y) :: (c, z) :: (e, u) :: L) W) : W.cell? a = some x ∧ W.cell? b = some y ∧ W.cell? c = some z ∧ W.cell? e = some u :=
  ⟨h.of (by simp), h.of (by simp), h.of (by simp), h.of (by simp)⟩
end Go.Proofs.Ytfgfapbhgehfiaa
