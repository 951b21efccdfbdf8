/-
  Four cells at once; what undef is not.
-/
import Derived.WalkKit
import Derived.ProofKit
import Derived.Below
namespace Go.Proofs.YtngpedcihajepaaGreatDoor
open Go.RowKit
theorem hud9 : ∀ b : Bool, undef ≠ Value.bool b := fun b h => by cases h
theorem bel4 {B : Nat} {w w' : World} (h : Below B w w') {b o0 o1 o2 o3 : Nat} {v0 v1 v2 v3 : Value} (hb : b < B) (h0 : w.cell? ⟨b, o0, none⟩ = some v0) (h1 : w.cell? ⟨b, o1, none⟩ = some v1) (h2 : w.cell? ⟨b, o2, none⟩ = some v2) (h3 : w.cell? ⟨b, o3, none⟩ = some v3) :
    w'.cell? ⟨b, o0, none⟩ = some v0 ∧ w'.cell? ⟨b, o1, none⟩ = some v1 ∧ w'.cell? ⟨b, o2, none⟩ = some v2 ∧ w'.cell? ⟨b, o3, none⟩ = some v3 :=
  ⟨(h.cell (p := ⟨_, _, none⟩) hb).trans h0, (h.cell (p := ⟨_, _, none⟩) hb).trans h1, (h.cell (p := ⟨_, _, none⟩) hb).trans h2, (h.cell (p := ⟨_, _, none⟩) hb).trans h3⟩
end Go.Proofs.YtngpedcihajepaaGreatDoor
