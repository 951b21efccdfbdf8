/-
  The laws of package twice: the box of the setup, kept from call to call.
-/
import Derived.Test.YtfkepkdfpjaniaaAl7
namespace Go.Proofs.Ytfkepkdfpjaniaa
open Go.RowKit
set_option linter.unusedVariables false
set_option maxRecDepth 100000

/-- w has come from W, and the setup lies in the block that was laid first -/
structure SB (W : World) (P : Nat) (n t : Int) (w : World) : Prop where
  below : Below W.heap.size W w
  lt : W.heap.size < w.heap.size
  c0 : w.cell? ⟨W.heap.size, 0, none⟩ = some (.int .u64 (P : Nat))
  c1 : w.cell? ⟨W.heap.size, 1, none⟩ = some (.int .i64 n)
  c2 : w.cell? ⟨W.heap.size, 2, none⟩ = some (.int .i64 t)
theorem SB.start (W : World) (P : Nat) (n t : Int) : SB W P n t (W.alloc (.cells #[.int .u64 (P : Nat), .int .i64 n, .int .i64 t] 24)) := ⟨balloc W _, by simp, by simp, by simp, by simp⟩
theorem SB.next {W w w' : World} {P : Nat} {n t : Int} (h : SB W P n t w) (hb : Below w.heap.size w w') : SB W P n t w' :=
  ⟨bnext h.below hb, Nat.lt_of_lt_of_le h.lt hb.size, (hb.cell (p := ⟨W.heap.size, 0, none⟩) h.lt).trans h.c0, (hb.cell (p := ⟨W.heap.size, 1, none⟩) h.lt).trans h.c1, (hb.cell (p := ⟨W.heap.size, 2, none⟩) h.lt).trans h.c2⟩
theorem SB.alloc {W w : World} {P : Nat} {n t : Int} (h : SB W P n t w) (o : Obj) : SB W P n t (w.alloc o) := h.next (balloc w o)
theorem SB.drew {W w : World} {P : Nat} {n t : Int} (h : SB W P n t w) : SB W P n t w.drew := h.next (Below.refl _ _).drew
/-- beside the setup, the box of two polynomials -/
structure SC (W : World) (P : Nat) (n t : Int) (u0 u1 : Value) (w : World) : Prop extends SB W P n t w where
  lt1 : W.heap.size + 1 < w.heap.size
  d0 : w.cell? ⟨W.heap.size + 1, 0, none⟩ = some u0
  d1 : w.cell? ⟨W.heap.size + 1, 1, none⟩ = some u1
theorem SC.start (W : World) (P : Nat) (n t : Int) (A0 A1 : Option Addr) (l0 c0 l1 c1 : Nat) : SC W P n t (.slice A0 l0 c0) (.slice A1 l1 c1) ((W.alloc (.cells #[.int .u64 (P : Nat), .int .i64 n, .int .i64 t] 24)).alloc (.cells #[.slice A0 l0 c0, .slice A1 l1 c1] 54)) :=
  ⟨(SB.start W P n t).alloc _, by simp, by simp, by simp⟩
theorem SC.next {W w w' : World} {P : Nat} {n t : Int} {u0 u1 : Value} (h : SC W P n t u0 u1 w) (hb : Below w.heap.size w w') : SC W P n t u0 u1 w' :=
  ⟨h.toSB.next hb, Nat.lt_of_lt_of_le h.lt1 hb.size, (hb.cell (p := ⟨W.heap.size + 1, 0, none⟩) h.lt1).trans h.d0, (hb.cell (p := ⟨W.heap.size + 1, 1, none⟩) h.lt1).trans h.d1⟩
theorem SC.alloc {W w : World} {P : Nat} {n t : Int} {u0 u1 : Value} (h : SC W P n t u0 u1 w) (o : Obj) : SC W P n t u0 u1 (w.alloc o) := h.next (balloc w o)
theorem SC.drew {W w : World} {P : Nat} {n t : Int} {u0 u1 : Value} (h : SC W P n t u0 u1 w) : SC W P n t u0 u1 w.drew := h.next (Below.refl _ _).drew
end Go.Proofs.Ytfkepkdfpjaniaa
