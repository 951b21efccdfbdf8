/-
  Cells kept by calls that only make memory.
-/
import Derived.Test.YtfgfapbhgehfiaaT5a
namespace Go.Proofs.Ytfgfapbhgehfiaa
open Go.RowKit
set_option linter.unusedVariables false

/-- cells that stand as told -/
def Kept (L : List (Addr × Value)) (W : World) : Prop := ∀ x ∈ L, x.1.block < W.heap.size ∧ W.cell? x.1 = some x.2
theorem Kept.below {L : List (Addr × Value)} {W W' : World} (h : Kept L W) (hb : Below W.heap.size W W') : Kept L W' := fun x hx =>
  ⟨Nat.lt_of_lt_of_le (h x hx).1 hb.size, (hb.cell (h x hx).1).trans (h x hx).2⟩
theorem Kept.drew {L : List (Addr × Value)} {W : World} (h : Kept L W) : Kept L W.drew := h
theorem Kept.app {L M : List (Addr × Value)} {W : World} (h : Kept L W) (h2 : Kept M W) : Kept (L ++ M) W := fun x hx => (List.mem_append.1 hx).elim (h x) (h2 x)
theorem Kept.alloc {L : List (Addr × Value)} {W : World} (h : Kept L W) (o : Obj) : Kept L (W.alloc o) := h.below (balloc W o)
theorem kept3 (w : World) (m : Nat) (hm : m = w.heap.size) (x y z : Value) (ty : TypeId) : Kept [(⟨m, 0, none⟩, x), (⟨m, 1, none⟩, y), (⟨m, 2, none⟩, z)] (w.alloc (.cells #[x, y, z] ty)) := by
  subst hm
  intro q hq
  simp at hq
  rcases hq with rfl | rfl | rfl <;> simp
theorem kept2 (w : World) (m : Nat) (hm : m = w.heap.size) (x y : Value) (ty : TypeId) : Kept [(⟨m, 0, none⟩, x), (⟨m, 1, none⟩, y)] (w.alloc (.cells #[x, y] ty)) := by
  subst hm
  intro q hq
  simp at hq
  rcases hq with rfl | rfl <;> simp
theorem Kept.of {L : List (Addr × Value)} {W : World} (h : Kept L W) {a : Addr} {v : Value} (hm : (a, v) ∈ L) : W.cell? a = some v := (h _ hm).2
theorem Kept.c3 {a b c : Addr} {x y z : Value} {L : List (Addr × Value)} {W : World} (h : Kept ((a, x) :: (b, y) :: (c, z) :: L) W) : W.cell? a = some x ∧ W.cell? b = some y ∧ W.cell? c = some z :=
  ⟨h.of (by simp), h.of (by simp), h.of (by simp)⟩
theorem Kept.tail {a : Addr × Value} {L : List (Addr × Value)} {W : World} (h : Kept (a :: L) W) : Kept L W := fun x hx => h x (List.mem_cons_of_mem _ hx)
theorem Kept.c6 {a b c d e f : Addr} {x y z u v t : Value} {L : List (Addr × Value)} {W : World} (h : Kept ((a, x) :: (b, y) :: (c, z) :: (d, u) :: (e, v) :: (f, t) :: L) W) :
    W.cell? a = some x ∧ W.cell? b = some y ∧ W.cell? c = some z ∧ W.cell? d = some u ∧ W.cell? e = some v ∧ W.cell? f = some t :=
  ⟨h.c3.1, h.c3.2.1, h.c3.2.2, h.tail.tail.tail.c3.1, h.tail.tail.tail.c3.2.1, h.tail.tail.tail.c3.2.2⟩
theorem Kept.c5 {a b c d e : Addr} {x y z u v : Value} {L : List (Addr × Value)} {W : World} (h : Kept ((a, x) :: (b, y) :: (c, z) :: (d, u) :: (e, v) :: L) W) :
    W.cell? a = some x ∧ W.cell? b = some y ∧ W.cell? c = some z ∧ W.cell? d = some u ∧ W.cell? e = some v :=
  ⟨h.c3.1, h.c3.2.1, h.c3.2.2, h.tail.tail.tail.of (by simp), h.tail.tail.tail.of (by simp)⟩

theorem below_of_drew {W w' : World} (h : Below W.drew.heap.size W.drew w') : Below W.heap.size W w' := ⟨h.os, h.tape, h.output, h.size, h.block⟩
end Go.Proofs.Ytfgfapbhgehfiaa
